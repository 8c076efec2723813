/- Names: turned: its walk. -/
import Derived.Test.YtjeafblkmipdmaaNrd
import Derived.Test.YtjeafblkmipdmaaRgf
namespace Go.Proofs.Ytjeafblkmipdmaa
open Go.RowKit
set_option linter.unusedVariables false

theorem Src.baseR {w : World} {B B' : Nat} {vd : Value} {D : List Df} {vs : List Value} (h : Src w B vd D vs) (hB : B' ≤ B) : Src w B' vd D vs := ⟨h.1, own_base h.2.1 hB, fun i d v hd hv => own_base (h.2.2.1 i d v hd hv) hB, h.2.2.2⟩
theorem Src.at2R {w : World} {B : Nat} {vd : Value} {D : List Df} {vs : List Value} (h : Src w B vd D vs) {i : Nat} {d : Df} (hd : D[i]? = some d) : ∃ g cap gv cv, vd = .slice (some ⟨g, 0, none⟩) D.length cap ∧ D.length ≤ cap ∧ vs[i]? = some (.slice gv d.ty.length cv) ∧ w.cell? ⟨g, i * 3 + 2, none⟩ = some (.slice gv d.ty.length cv) ∧ g < w.heap.size := by
  have hi := (List.getElem?_eq_some_iff.1 hd).1
  have hv : vs[i]? = some (vs[i]'(by rw [h.1]; exact hi)) := List.getElem?_eq_getElem _
  obtain ⟨g, cap, ys, hvd, hb, hc, hm, hl, ht, hK⟩ := ownS_blk h.2.1 (by omega)
  have hat : ∀ j, j < 3 → w.cell? ⟨g, i * 3 + j, none⟩ = (dfc d (vs[i]'(by rw [h.1]; exact hi)))[j]? := fun j hj => by
    rw [← cellsD_at D vs i j d _ hd hv hj, hK.cell, ← ht, List.getElem?_take, if_pos (by omega)]
  obtain ⟨gv, cv, e⟩ := own_slc (h.2.2.1 i d _ hd hv)
  have h2 := hat 2 (by decide)
  rw [e] at hv h2
  exact ⟨g, cap, gv, cv, hvd, hc, hv, h2, hK.lt⟩
/-- The node that is turned: what is known at its head, behind its name, behind its label. -/
structure NdT (w : World) (D : List Df) (i : Nat) (d : Df) (j : Nat) (x : Nd) (bo b1 b2 br bz : Nat) (vd : Value) (vs : List Value) (wr : World) (y : Nd) (v1 v2 : Value) (L M : List ByteArray) (a b : Nat) : Prop where
  st : TnS w.heap.size wr bo b1 b2 br vd v1 v2 (midD D L M i d (midN d.ty L M j y)) vs L M
  bx : Blk wr bz 38 (ndc x)
  bel : Below w.heap.size w wr
  df : ∀ d ∈ D.take i, InD L M d
  nm : d.name ∈ L
  nd : ∀ x ∈ d.ty.take j, InX L M x
  ll : L.length ≤ sumN (D.take i) + 1 + a
  lm : M.length ≤ sumN (D.take i) + b
theorem NdT.later {w : World} {D : List Df} {i : Nat} {d : Df} {j : Nat} {x : Nd} {bo b1 b2 br bz : Nat} {vd : Value} {vs : List Value} {wr w' : World} {y : Nd} {v1 v2 : Value} {L M : List ByteArray} {a b : Nat} (h : NdT w D i d j x bo b1 b2 br bz vd vs wr y v1 v2 L M a b) (hB : Below wr.heap.size wr w') : NdT w D i d j x bo b1 b2 br bz vd vs w' y v1 v2 L M a b :=
  ⟨h.st.later hB, h.bx.later hB, h.bel.trans (hB.mono h.bel.size), h.df, h.nm, h.nd, h.ll, h.lm⟩
section
variable {w : World} {D : List Df} {i : Nat} {d : Df} {j : Nat} {x : Nd} {bo b1 b2 br bz : Nat} {vd : Value} {vs : List Value} {wr w' : World} {y : Nd} {v1 v2 : Value} {L M : List ByteArray} {a b : Nat}
theorem NdT.at1 (h : NdT w D i d j x bo b1 b2 br bz vd vs wr y v1 v2 L M a b) {s : ByteArray} {e : Ending} (hA : AtTo wr b1 w.heap.size v1 L s e w') : e = .returned (.int .i64 ((ixN (addN L s) s : Nat) : Int)) ∧ ∃ v, NdT w D i d j x bo b1 b2 br bz vd vs w' y v v2 (addN L s) M (a + 1) b := by
  obtain ⟨X, hX, hX1⟩ := addN_app L s
  obtain ⟨v', m1, u1, c1⟩ := hA.2
  obtain ⟨he, v, h1, u⟩ := h.st.at1 hA
  refine ⟨he, v, ?_, ?_, h.bel.trans (u.below _ h.bel.size (fun k hk => hk)), ?_, ?_, ?_, ?_, h.lm⟩
  · have e1 : midN d.ty (L ++ X) (M ++ []) j y = midN d.ty L M j y := midN_app h.nd
    have e2 : midD D (L ++ X) (M ++ []) i d (midN d.ty L M j y) = midD D L M i d (midN d.ty L M j y) := midD_app h.df h.nm
    rw [List.append_nil] at e1 e2
    have h2 := h1
    rw [hX] at h2 ⊢
    rw [e1, e2]
    exact h2
  · refine h.bx.upd u1 (fun e => ?_)
    rcases e with e | e
    · subst e; exact absurd (blk_type h.bx h.st.l1.1) (by decide)
    · obtain ⟨zs, hz⟩ := ownS_type h.st.l1.2 e
      exact absurd (blk_type h.bx hz) (by decide)
  · intro d hd
    have := (h.df d hd).app (X := X) (Y := [])
    rw [List.append_nil] at this
    rw [hX]; exact this
  · rw [hX]; exact List.mem_append_left _ h.nm
  · intro q hq
    have := (h.nd q hq).app (X := X) (Y := [])
    rw [List.append_nil] at this
    rw [hX]; exact this
  · rw [hX, List.length_append]; have := h.ll; omega
theorem NdT.at2 (h : NdT w D i d j x bo b1 b2 br bz vd vs wr y v1 v2 L M a b) {s : ByteArray} {e : Ending} (hA : AtTo wr b2 w.heap.size v2 M s e w') : e = .returned (.int .i64 ((ixN (addN M s) s : Nat) : Int)) ∧ ∃ v, NdT w D i d j x bo b1 b2 br bz vd vs w' y v1 v L (addN M s) a (b + 1) := by
  obtain ⟨X, hX, hX1⟩ := addN_app M s
  obtain ⟨v', m1, u1, c1⟩ := hA.2
  obtain ⟨he, v, h1, u⟩ := h.st.at2 hA
  refine ⟨he, v, ?_, ?_, h.bel.trans (u.below _ h.bel.size (fun k hk => hk)), ?_, h.nm, ?_, h.ll, ?_⟩
  · have e1 : midN d.ty (L ++ []) (M ++ X) j y = midN d.ty L M j y := midN_app h.nd
    have e2 : midD D (L ++ []) (M ++ X) i d (midN d.ty L M j y) = midD D L M i d (midN d.ty L M j y) := midD_app h.df h.nm
    rw [List.append_nil] at e1 e2
    have h2 := h1
    rw [hX] at h2 ⊢
    rw [e1, e2]
    exact h2
  · refine h.bx.upd u1 (fun e => ?_)
    rcases e with e | e
    · subst e; exact absurd (blk_type h.bx h.st.l2.1) (by decide)
    · obtain ⟨zs, hz⟩ := ownS_type h.st.l2.2 e
      exact absurd (blk_type h.bx hz) (by decide)
  · intro d hd
    have := (h.df d hd).app (X := []) (Y := X)
    rw [List.append_nil] at this
    rw [hX]; exact this
  · intro q hq
    have := (h.nd q hq).app (X := []) (Y := X)
    rw [List.append_nil] at this
    rw [hX]; exact this
  · rw [hX, List.length_append]; have := h.lm; omega
/-- A field of the node is written. -/
theorem NdT.put (h : NdT w D i d j x bo b1 b2 br bz vd vs wr y v1 v2 L M a b) (hi : i < D.length) (hj : j < d.ty.length) {f : Nat} (hf : f < 7) {u : Value} {y2 : Nd} (hu : (ndc y).set f u = ndc y2) {gv : Option Addr} {cv : Nat} (hv : vs[i]? = some (.slice gv d.ty.length cv)) (hz : w.heap.size ≤ bz) (hzb : ∀ k, (Value.slice gv d.ty.length cv).ownBlock = some k → k ≠ bz) :
    ∃ g, gv = some ⟨g, 0, none⟩ ∧ d.ty.length ≤ cv ∧ (∃ q, wr.cell? ⟨g, j * 7 + f, none⟩ = some q) ∧ wr.frozen? ⟨g, j * 7 + f, none⟩ = false ∧ NdT w D i d j x bo b1 b2 br bz vd vs (wr.setCell ⟨g, j * 7 + f, none⟩ u) y2 v1 v2 L M a b := by
  have hd := midD_at (D := D) (L := L) (M := M) (d := d) (N := midN d.ty L M j y) hi
  have hl : (midN d.ty L M j y).length = d.ty.length := midN_len hj
  obtain ⟨g, cap, e, hc, hb, c1, c2, S⟩ := h.st.src.setFr (v := .slice gv d.ty.length cv) hd hv (midN_at hj) hf hu
  simp only [hl] at e hc
  rw [midN_set hj, midD_set hi] at S
  obtain ⟨rfl, rfl⟩ : gv = some ⟨g, 0, none⟩ ∧ cv = cap := by injection e with e1 e2 e3; exact ⟨e1, e3⟩
  have ho : (Value.slice (some ⟨g, 0, none⟩) d.ty.length cv).ownBlock = some g := rfl
  obtain ⟨zs, hzz⟩ := ownS_type (h.st.src.2.2.1 i _ _ hd hv) ho
  have hU : Upd (fun k => k = g) wr (wr.setCell ⟨g, j * 7 + f, none⟩ u) := (Upd.refl _ wr).set _ _ (.inl rfl)
  exact ⟨g, rfl, hc, c1, c2, ⟨h.st.write hU hzz (.inr rfl) S, h.bx.upd hU (fun e => hzb g ho e.symm), h.bel.trans (hU.below _ h.bel.size (fun k e => by omega)), h.df, h.nm, h.nd, h.ll, h.lm⟩⟩
end
theorem Src.nodeAt {w : World} {B : Nat} {vd : Value} {D : List Df} {vs : List Value} (h : Src w B vd D vs) {i m : Nat} {d : Df} {v : Value} {y : Nd} (hd : D[i]? = some d) (hv : vs[i]? = some v) (hy : d.ty[m]? = some y) : ∃ g cap, v = .slice (some ⟨g, 0, none⟩) d.ty.length cap ∧ d.ty.length ≤ cap ∧ B ≤ g ∧ g < w.heap.size ∧ ∀ q, q < 7 → w.cell? ⟨g, m * 7 + q, none⟩ = (ndc y)[q]? := by
  have hm := (List.getElem?_eq_some_iff.1 hy).1
  obtain ⟨g, cap, ys, hvd, hb, hc, -, hl, ht, hK⟩ := ownS_blk (h.2.2.1 i d v hd hv) (by omega)
  refine ⟨g, cap, hvd, hc, hb, hK.lt, fun q hq => ?_⟩
  rw [← cellsN_at d.ty m q y hy hq, hK.cell, ← ht, List.getElem?_take, if_pos (by omega)]
theorem NdT.cells {w : World} {D : List Df} {i : Nat} {d : Df} {j : Nat} {x : Nd} {bo b1 b2 br bz n : Nat} {g dc : Nat} {vs : List Value} {wr : World} {y : Nd} {v1 v2 : Value} {L M : List ByteArray} {a b : Nat} (h : NdT w D i d j x bo b1 b2 br bz (.slice (some ⟨g, 0, none⟩) n dc) vs wr y v1 v2 L M a b) (hi : i < D.length) (hj : j < d.ty.length) {gv : Option Addr} {cv : Nat} (hv : vs[i]? = some (.slice gv d.ty.length cv)) : wr.cell? ⟨bo, 0, none⟩ = some (.slice (some ⟨g, 0, none⟩) n dc) ∧ wr.cell? ⟨g, i * 3 + 2, none⟩ = some (.slice gv d.ty.length cv) := by
  have y0 := h.st.bx.cell 0
  simp at y0
  obtain ⟨g', cap', gv', cv', e, -, hv', c2, -⟩ := h.st.src.at2R (midD_at hi)
  obtain rfl : g = g' := by injection e with e1 e2 e3; injection e1 with e1; injection e1
  rw [hv] at hv'
  injection hv' with hv'
  rw [← hv'] at c2
  exact ⟨y0, c2⟩
theorem NdT.fin {w : World} {D : List Df} {i : Nat} {d : Df} {j : Nat} {x : Nd} {bo b1 b2 br bz : Nat} {vd : Value} {vs : List Value} {wr : World} {v1 v2 : Value} {L M : List ByteArray} (h : NdT w D i d j x bo b1 b2 br bz vd vs wr { x with name := fN L x.name, label := fN M x.label } v1 v2 L M (j + 1) (j + 1)) (hx : d.ty[j]? = some x) (hi : InX L M x) :
    TnS w.heap.size wr bo b1 b2 br vd v1 v2 (midD D L M i d (preN d.ty L M (j + 1))) vs L M ∧ InM D L M i d (j + 1) ∧ Below w.heap.size w wr := by
  refine ⟨?_, ⟨h.df, h.nm, fun q hq => ?_, h.ll, h.lm⟩, h.bel⟩
  · rw [← midN_done hx]
    exact h.st
  · rw [List.take_add_one, hx] at hq
    rcases List.mem_append.1 hq with hq | hq
    · exact h.nd q hq
    · simp at hq
      subst hq
      exact hi
def TuTo (w : World) (D : List Df) (e : Ending) (w' : World) : Prop := ∃ vd vs fr L M, e = .returned (.tuple #[.agg #[vd], .bool fr]) ∧ Hid (Src w' w.heap.size vd (D.map (tnD L M)) vs) ∧ Hid (∀ d ∈ D, InD L M d) ∧ Hid (L.length ≤ 4000000 ∧ M.length ≤ 4000000) ∧ Hid (Below w.heap.size w w')
theorem bldLs (w : World) : (Instr.build 52 #[]).run Try.prog w = .ok (.agg #[.slice none 0 0]) w := by kernel_rfl
theorem ndc_nm (y : Nd) (s : ByteArray) : (ndc y).set 2 (.string s) = ndc { y with name := s } := rfl
theorem ndc_lb (y : Nd) (s : ByteArray) : (ndc y).set 3 (.string s) = ndc { y with label := s } := rfl
theorem retST9 {fn : Func} {p u : Tmp} (h : fn.results = #[.cell p 24, .tmp u]) {R : Ending → World → Prop} {tmps : Array Value} {g : Nat} {w : World} {x v : Value} (hu : tmps.getD u undef = v) (hp : tmps.getD p undef = .pointer (some ⟨g, 0, none⟩)) (hK : Blk w g 24 [x]) (hR : R (.returned (.tuple #[.agg #[x], v])) w) :
    bodyPost Try.prog fn R Exit.ret ⟨tmps, []⟩ w := by
  subst hu
  have hg : w.heap[g]? = some (.cells #[x] 24 (0, 0)) := hK
  refine bodyPost_ret (v := .tuple #[.agg #[x], tmps.getD u undef]) ?_ rfl hR
  have hp' : tmps[p]?.getD undef = .pointer (some ⟨g, 0, none⟩) := by simpa using hp
  simp only [results, h]
  simp [hp', asAddr, Result.andThen, run_loadVar_row w g 24 24 #[x] (0, 0) _ hg Try.underlying24 rfl (by show _ = some 1; kernel_rfl)]
set_option maxRecDepth 100000 in
set_option maxHeartbeats 16000000 in
theorem turned_any (a : Option Addr) (c n : Nat) (D : List Df) (w : World) (hn : D.length = n) (hS : Hid (Wt D)) (hN : Hid (sumN D ≤ 600000)) (hc : n ≤ c) (hR : Hid (DRow w a D)) :
    Calls Try.prog 6 #[.agg #[.slice a n c]] w fun e w' => TuTo w D e w' := by
  have hnl : n ≤ 600000 := by rw [← hn]; exact Nat.le_trans (sumN_len D) hN.out
  obtain ⟨wa, hwa⟩ : ∃ wa, wa = (w.alloc (.cells #[.slice a n c] 24)).alloc (.cells #[.slice none 0 0] 24) := ⟨_, rfl⟩
  have hBa : Below w.heap.size w wa := by rw [hwa]; exact ((Below.refl _ _).alloc (Nat.le_refl _) _).alloc (by simp) _
  have ka : Blk wa w.heap.size 24 [.slice a n c] := by rw [hwa]; exact (Blk.newA w #[.slice a n c] 24).alloc _
  have kr : Blk wa (w.heap.size + 1) 24 [.slice none 0 0] := by rw [hwa]; have h := Blk.newA (w.alloc (.cells #[.slice a n c] 24)) #[.slice none 0 0] 24; simpa using h
  have HLn := hide_ (lent_all a c D wa hS (by rw [hn]; exact hc) (hide_ (hR.out.later hBa)))
  rw [hn] at HLn
  have Hn := hide_ hn
  have HBa := hide_ hBa
  have HKr := hide_ kr
  have x0 := ka.cell 0
  simp at x0
  clear hn hBa kr ka
  have hbl := bldLs
  go_enter Try.func6, Try.ntmps6
  go_upto_region 1 with fail
  rw [← hwa]
  clear hwa
  go_wp2_with fail
  refine HLn.out.mono ?_; rintro e w1 ⟨vd, rfl, vs, HS1, HB1, -⟩
  obtain ⟨da, dc, hvd⟩ := own_slc HS1.out.2.1
  rw [Hn.out] at hvd
  subst hvd
  obtain ⟨wc, hwc⟩ : ∃ wx, wx = ((w1.alloc (.cells #[.slice da n dc] 24)).alloc (.cells #[.slice none 0 0] 52)).alloc (.cells #[.slice none 0 0] 52) := ⟨_, rfl⟩
  have hBc : Below w1.heap.size w1 wc := by rw [hwc]; exact (((Below.refl _ _).alloc (Nat.le_refl _) _).alloc (by simp) _).alloc (by simp; omega) _
  have hB1w := below_to HBa.out HB1.out
  have HT0 : Hid (TnS w.heap.size wc w1.heap.size (w1.heap.size + 1) (w1.heap.size + 1 + 1) (w.heap.size + 1) (.slice da n dc) (.slice none 0 0) (.slice none 0 0) (preD D [] [] 0) vs [] []) := hide_ (by
    rw [preD_zero]
    have k1 := (Blk.newA w1 #[.slice da n dc] 24).alloc (.cells #[.slice none 0 0] 52) |>.alloc (.cells #[.slice none 0 0] 52)
    have k2 := (Blk.newA (w1.alloc (.cells #[.slice da n dc] 24)) #[.slice none 0 0] 52).alloc (.cells #[.slice none 0 0] 52)
    have k3 := Blk.newA ((w1.alloc (.cells #[.slice da n dc] 24)).alloc (.cells #[.slice none 0 0] 52)) #[.slice none 0 0] 52
    rw [← hwc] at k1 k2 k3
    have hs := hB1w.size
    exact ⟨(HS1.out.later hBc).baseR HBa.out.size, k1, ⟨by simpa using k2, World.ownsRow_nil _ _ _ _⟩, ⟨by simpa using k3, World.ownsRow_nil _ _ _ _⟩, by omega, fun k hk => (by cases hk), (HKr.out.later HB1.out).later hBc, ⟨hs, by omega, by omega, by omega⟩⟩)
  have HBc := hide_ (below_to hB1w hBc)
  have HI0 : Hid (InL D [] [] 0) := hide_ ⟨fun d hd => by simp at hd, by simp, by simp⟩
  have hs1 : w.heap.size ≤ w1.heap.size := hB1w.size
  clear HLn hBc hB1w HS1 HB1 HBa HKr x0
  go_upto_region 4 with fail
  rw [← hwc]
  clear hwc
  have hs2 : w.heap.size ≤ w1.heap.size + 1 := by omega
  have hs3 : w.heap.size ≤ w1.heap.size + 1 + 1 := by omega
  generalize w1.heap.size + 1 + 1 = b2 at *
  generalize w1.heap.size + 1 = b1 at *
  generalize w1.heap.size = bo at *
  generalize w.heap.size + 1 = br at *
  go_wp2_with fail
  go_loopw [7, 8] (fun x7 x8 wr => ∃ (i : Nat) (fr : Bool) (v1 v2 : Value) (L M : List ByteArray), i ≤ n ∧ x7 = .bool fr ∧ x8 = .int .i64 (i : Int) ∧ Hid (TnS w.heap.size wr bo b1 b2 br (.slice da n dc) v1 v2 (preD D L M i) vs L M) ∧ Hid (InL D L M i) ∧ Hid (Below w.heap.size w wr)) (fun _ x8 _ => n - (intOf x8).toNat)
  case atStart => exact ⟨0, true, _, _, [], [], Nat.zero_le _, rfl, rfl, HT0, HI0, HBc⟩
  case round =>
    clear HT0 HI0 HBc
    obtain ⟨i, fr, v1, v2, L, M, hi, rfl, rfl, HT, HI, HB⟩ := hrel
    generalize wr = wq at *
    have q0 := HT.out.bx.cell 0
    simp at q0
    by_cases hlt : i < n
    · have hlt' : (i : Int) < (n : Int) := by omega
      have hiD : i < D.length := by rw [Hn.out]; exact hlt
      have hd : D[i]? = some (D[i]'hiD) := List.getElem?_eq_getElem hiD
      have Hd := hide_ hd
      generalize D[i]'hiD = d at *
      obtain ⟨g, cap, e1, hcap, hge, c0, c1, -⟩ := HT.out.src.setR (preD_at Hd.out) ⟨#[]⟩
      rw [preD_len (by omega), Hn.out] at e1 hcap
      obtain ⟨rfl, rfl⟩ : da = some ⟨g, 0, none⟩ ∧ dc = cap := by injection e1 with e1 e2 e3; exact ⟨e1, e3⟩
      have HsT := hide_ (sumN_take Hd.out)
      have HsL := hide_ (sumN_le (D := D) (i + 1))
      have hLl : L.length ≤ 600000 := by have h1 := HI.out.ll; have h2 := HsL.out; have h3 := HsT.out; have h4 := hN.out; omega
      have hml : d.ty.length ≤ 600000 := by have h2 := HsL.out; have h3 := HsT.out; have h4 := hN.out; omega
      have HA := hide_ (at_any b1 w.heap.size v1 L d.name wq (by omega) hs2 (hide_ HT.out.l1))
      clear e1 hd
      go_upto_region 8 with fail
      go_cut [7] from 25 to 35 (fun x7 wc => ∃ f2 : Bool, x7 = .bool f2 ∧ wq = wc)
      case first =>
        cases fr with
        | false =>
          go_wp2_with fail
          go_meet
          case rel => exact ⟨false, rfl, rfl⟩
        | true =>
          have HO := hide_ (odd_any d.name wq)
          go_wp2_with fail
          refine HO.out.mono ?_; rintro e w' ⟨r2, rfl, rfl⟩
          go_wp2_with fail
          go_meet
          case rel => exact ⟨_, rfl, rfl⟩
      case rest =>
      obtain ⟨fr2, rfl, rfl⟩ := hcut
      go_wp2_with fail
      refine HA.out.mono ?_; intro e w2 hA
      obtain ⟨rfl, v1', hT2, hU2⟩ := HT.out.at1 hA
      obtain ⟨X, hX, hX1⟩ := addN_app L d.name
      have hmem := addN_mem L d.name
      have hpre : preD D (addN L d.name) M i = preD D L M i := by
        have := preD_app (X := X) (Y := []) HI.out.df
        rw [List.append_nil] at this
        rw [hX]; exact this
      rw [← hpre] at hT2
      have hdf : ∀ d2 ∈ D.take i, InD (addN L d.name) M d2 := fun d2 h2 => by
        have := (HI.out.df d2 h2).app (X := X) (Y := [])
        rw [List.append_nil] at this
        rw [hX]; exact this
      have hlen : (addN L d.name).length ≤ L.length + 1 := by rw [hX, List.length_append]; omega
      generalize addN L d.name = L2 at *
      have hkl := ix_lt hmem
      have HT2 := hide_ hT2
      have HB2 := hide_ (HB.out.trans (hU2.below _ HB.out.size (fun k hk => hk)))
      have hw2 : w.heap.size ≤ w2.heap.size := HB2.out.size
      obtain ⟨k, hk⟩ : ∃ k, ixN L2 d.name = k := ⟨_, rfl⟩
      have Hk := hide_ hk
      rw [hk] at hkl ⊢
      have hkb : k ≤ 4000000 := by omega
      obtain ⟨ZX, hZX⟩ : ∃ ZX, (⟨(decF 20 k).toArray⟩ : ByteArray) = ZX := ⟨_, rfl⟩
      have HDg : Hid (Calls Try.prog 15 #[.int .i64 (k : Int)] w2.drew fun e w' => e = .returned (.string ZX) ∧ Below w2.drew.heap.size w2.drew w') := hide_ (by rw [← hZX]; exact digits_any 19 k w2.drew (by omega) (Nat.lt_of_le_of_lt hkb (by decide)) (by omega))
      have hZs : ZX.size ≤ 20 := by rw [← hZX, Lib.size_eq]; have := decF_len 20 k; simpa using this
      have hZc : ¬ 9223372036854775807 < 2 + ZX.size := by omega
      have HZ : Hid (zqn k = (⟨#[122, 113]⟩ : ByteArray) ++ ZX) := hide_ (by rw [← hZX]; rfl)
      have HTw : Hid (∀ w3, Below w2.heap.size w2 w3 → (∃ x, w3.cell? ⟨g, i * 3, none⟩ = some x) ∧ w3.frozen? ⟨g, i * 3, none⟩ = false ∧ TnS w.heap.size (w3.setCell ⟨g, i * 3, none⟩ (.string ((⟨#[122, 113]⟩ : ByteArray) ++ ZX))) bo b1 b2 br (.slice (some ⟨g, 0, none⟩) n dc) v1' v2 (midD D L2 M i d (preN d.ty L2 M 0)) vs L2 M ∧ Below w.heap.size w (w3.setCell ⟨g, i * 3, none⟩ (.string ((⟨#[122, 113]⟩ : ByteArray) ++ ZX)))) := hide_ (fun w3 hb3 => by
        have hT3 := HT2.out.later hb3
        obtain ⟨g', cap', e1, -, -, c0, c1, S⟩ := hT3.src.setR (preD_at Hd.out) (zqn k)
        obtain rfl : g = g' := by injection e1 with e1 e2 e3; injection e1 with e1; injection e1
        have ho : (Value.slice (some ⟨g, 0, none⟩) n dc).ownBlock = some g := rfl
        obtain ⟨zs, hz⟩ := ownS_type hT3.src.2.1 ho
        have hU : Upd (fun q => q = g) w3 (w3.setCell ⟨g, i * 3, none⟩ (.string (zqn k))) := (Upd.refl _ w3).set _ _ (.inl rfl)
        rw [← Hk.out, preD_set Hd.out, Hk.out] at S
        rw [← HZ.out, preN_zero]
        have hB3 := HB2.out.trans (hb3.mono HB2.out.size)
        exact ⟨⟨_, c0⟩, c1, hT3.write hU hz (.inl rfl) S, hB3.trans (hU.below _ hB3.size (fun q e => by omega))⟩)
      have HSS : Hid (∀ w', Below w2.heap.size w2 w' → (fun w' => w'.cell? ⟨bo, 0, none⟩ = some (.slice (some ⟨g, 0, none⟩) n dc)) w') := hide_ (fun w' hb => by
        have y0 := (HT2.out.bx.later hb).cell 0
        simp at y0
        exact y0)
      have HFz : Hid (∀ w', Below w2.heap.size w2 w' → (∃ x, w'.cell? ⟨g, i * 3, none⟩ = some x) ∧ w'.frozen? ⟨g, i * 3, none⟩ = false) := hide_ (fun w' hb => ⟨(HTw.out w' hb).1, (HTw.out w' hb).2.1⟩)
      have HI2 : Hid (InM D L2 M i d 0) := hide_ ⟨hdf, hmem, fun x hx => by simp at hx, by have := HI.out.ll; omega, HI.out.lm⟩
      clear hdf hmem hlen hkl hT2 hpre hU2 HA hA HT HI HB q0 c0 c1 hX hX1 hk hZX hLl
      go_upto_region 10 with fail
      refine wp_region_last 8 (fun w' => w'.cell? ⟨bo, 0, none⟩ = some (.slice (some ⟨g, 0, none⟩) n dc)) (by kernel_rfl) (HSS.out _ ((Below.refl w2.heap.size w2).drew)) (fun hHeld => ?_)
      refine wpAnyF_take [8] (by kernel_rfl) (i := 0) (v := ?va1) rfl (by kernel_rfl) (by kernel_rfl) (by kernel_rfl) (fun _ _ _ h => h) (Or.inl ⟨by kernel_rfl, ?hya1⟩) hHeld ?resta1
      case hya1 => intro w' hSw; (try dsimp only at hSw); go_simp; try with_reducible rfl
      simp only [Act.put]
      refine wpAnyF_take [8] (by kernel_rfl) (i := 1) (v := ?va2) rfl (by kernel_rfl) (by kernel_rfl) (by kernel_rfl) (fun _ _ _ h => h) (Or.inl ⟨by kernel_rfl, ?hya2⟩) hHeld ?resta2
      case hya2 => intro w' hSw; (try dsimp only at hSw); go_simp; try with_reducible rfl
      simp only [Act.put]
      refine wpAnyF_take [8] (by kernel_rfl) (i := 2) (v := ?va3) rfl (by kernel_rfl) (by kernel_rfl) (by kernel_rfl) (fun _ _ _ h => h) (Or.inl ⟨by kernel_rfl, ?hya3⟩) hHeld ?resta3
      case hya3 => intro w' hSw; (try dsimp only at hSw); go_simp; try with_reducible rfl
      simp only [Act.put]
      refine wpAnyF_take [8] (by kernel_rfl) (i := 3) (v := ?va4) rfl (by kernel_rfl) (by kernel_rfl) (by kernel_rfl) (fun _ _ _ h => h) (Or.inl ⟨by kernel_rfl, ?hya4⟩) hHeld ?resta4
      case hya4 => intro w' hSw; (try dsimp only at hSw); go_simp; try with_reducible rfl
      simp only [Act.put]
      refine wpAnyF_ready (rs := [4]) (by kernel_rfl) (by simp) ?_
      refine AllReadyF.cons rfl (fun K hK => ?_) AllReadyF.nil
      go_simp
      refine HDg.out.mono ?_
      rintro e w3 ⟨rfl, hBg⟩
      dsimp only
      have HBg := hide_ hBg
      clear hBg
      refine hK.out _ _ (HSS.out _ (below_to ((Below.refl w2.heap.size w2).drew) HBg.out)) (fun hHeld => ?_)
      clear hK K
      refine wpAnyF_take [8] (by kernel_rfl) (i := 5) (v := ?va5) rfl (by kernel_rfl) (by kernel_rfl) (by kernel_rfl) (fun _ _ _ h => h) (Or.inl ⟨by kernel_rfl, ?hya5⟩) hHeld ?resta5
      case hya5 => intro w' hSw; (try dsimp only at hSw); go_simp; try with_reducible rfl
      simp only [Act.put]
      refine wpAnyF_take [8, 7] (by kernel_rfl) (i := 6) (v := ?va6) rfl (by kernel_rfl) (by kernel_rfl) (by kernel_rfl) (fun _ _ _ h => h) (Or.inl ⟨by kernel_rfl, ?hya6⟩) hHeld ?resta6
      case hya6 => intro w' hSw; (try dsimp only at hSw); go_simp; try with_reducible rfl
      simp only [Act.put]
      refine wpAnyF_take [8] (by kernel_rfl) (i := 7) (v := ?va7) rfl (by kernel_rfl) (by kernel_rfl) (by kernel_rfl) (fun _ _ _ h => h) (Or.inl ⟨by kernel_rfl, ?hya7⟩) hHeld ?resta7
      case hya7 => intro w' hSw; (try dsimp only at hSw); go_simp; try with_reducible rfl
      simp only [Act.put]
      refine wpAnyF_ready (rs := [8]) (by kernel_rfl) (by simp) ?_
      refine AllReadyF.last rfl (fun K hK => ?_)
      have qz := HFz.out w3 (below_to ((Below.refl w2.heap.size w2).drew) HBg.out)
      obtain ⟨⟨qx, qz1⟩, qz2⟩ := qz
      go_simp
      refine hK.out _ _ ?_
      clear hK K
      refine wpAnyF_done (by kernel_rfl) ?_ _
      have hb3 := below_to ((Below.refl w2.heap.size w2).drew) HBg.out
      have HT4 := hide_ (HTw.out w3 hb3).2.2.1
      have HB4 := hide_ (HTw.out w3 hb3).2.2.2
      obtain ⟨w4, hw4⟩ : ∃ wx, wx = w3.setCell ⟨g, i * 3, none⟩ (.string ((⟨#[122, 113]⟩ : ByteArray) ++ ZX)) := ⟨_, rfl⟩
      rw [← hw4] at HT4 HB4
      clear HTw HSS HFz HDg HT2 HB2 hb3 HBg hw2
      obtain ⟨m, hm⟩ : ∃ m, d.ty.length = m := ⟨_, rfl⟩
      have Hm := hide_ hm
      rw [hm] at hml
      have hsb : sumN (D.take i) + 1 + m ≤ 600000 := by have h2 := HsL.out; have h3 := HsT.out; have h4 := hN.out; rw [hm] at h3; omega
      clear hm
      go_upto_region 11 with fail
      rw [← hw4]
      clear hw4
      go_wp2_with fail
      go_loopw [7, 10] (fun x7 x10 wr => ∃ (j : Nat) (fr : Bool) (v1 v2 : Value) (L M : List ByteArray), j ≤ m ∧ x7 = .bool fr ∧ x10 = .int .i64 (j : Int) ∧ Hid (TnS w.heap.size wr bo b1 b2 br (.slice (some ⟨g, 0, none⟩) n dc) v1 v2 (midD D L M i d (preN d.ty L M j)) vs L M) ∧ Hid (InM D L M i d j) ∧ Hid (Below w.heap.size w wr)) (fun _ x10 _ => m - (intOf x10).toNat)
      case atStart => exact ⟨0, _, _, _, _, _, Nat.zero_le _, rfl, rfl, HT4, HI2, HB4⟩
      case round =>
        clear HT4 HI2 HB4 Hk HZ hZs hZc hkb
        obtain ⟨j, fr3, v1, v2, L, M, hj, rfl, rfl, HT, HI, HB⟩ := hrel
        generalize wr = wq at *
        have q0 := HT.out.bx.cell 0
        simp at q0
        obtain ⟨g', cap', gx, cv, e1, -, hv, c2, -⟩ := HT.out.src.at2R (midD_at hiD)
        obtain rfl : g = g' := by injection e1 with e1 e2 e3; injection e1 with e1; injection e1
        have hpl : (preN d.ty L M j).length = m := by rw [preN_len (by rw [Hm.out]; exact hj), Hm.out]
        simp only [hpl] at hv c2
        clear e1
        by_cases hjm : j < m
        · have hjm' : (j : Int) < (m : Int) := by omega
          have hjd : j < d.ty.length := by rw [Hm.out]; exact hjm
          have hx : d.ty[j]? = some (d.ty[j]'hjd) := List.getElem?_eq_getElem hjd
          have Hx := hide_ hx
          generalize d.ty[j]'hjd = x at *
          obtain ⟨gv, cv', e2, hcv, hgB, hgl, hcell⟩ := HT.out.src.nodeAt (midD_at hiD) hv (preN_at Hx.out)
          simp only [hpl] at e2 hcv
          obtain ⟨rfl, rfl⟩ : gx = some ⟨gv, 0, none⟩ ∧ cv = cv' := by injection e2 with e1 e2 e3; exact ⟨e1, e3⟩
          have p0 : wq.cell? ⟨gv, j * 7, none⟩ = some (.int .i64 x.k) := hcell 0 (by decide)
          have p1 : wq.cell? ⟨gv, j * 7 + 1, none⟩ = some (.int .i64 x.n) := hcell 1 (by decide)
          have p2 : wq.cell? ⟨gv, j * 7 + 2, none⟩ = some (.string x.name) := hcell 2 (by decide)
          have p3 : wq.cell? ⟨gv, j * 7 + 3, none⟩ = some (.string x.label) := hcell 3 (by decide)
          have p4 : wq.cell? ⟨gv, j * 7 + 4, none⟩ = some (.int .i64 x.tag) := hcell 4 (by decide)
          have p5 : wq.cell? ⟨gv, j * 7 + 5, none⟩ = some (.int .i64 x.kids) := hcell 5 (by decide)
          have p6 : wq.cell? ⟨gv, j * 7 + 6, none⟩ = some (.int .i64 x.a) := hcell 6 (by decide)
          obtain ⟨wz, hwz⟩ : ∃ wx, wx = wq.alloc (.cells #[.int .i64 x.k, .int .i64 x.n, .string x.name, .string x.label, .int .i64 x.tag, .int .i64 x.kids, .int .i64 x.a] 38) := ⟨_, rfl⟩
          have hbz : Below wq.heap.size wq wz := by rw [hwz]; exact (Below.refl _ _).alloc (Nat.le_refl _) _
          have kz : Blk wz wq.heap.size 38 (ndc x) := by rw [hwz]; exact Blk.newA wq _ _
          have HNd : Hid (NdT w D i d j x bo b1 b2 br wq.heap.size (.slice (some ⟨g, 0, none⟩) n dc) vs wz x v1 v2 L M j j) := hide_ ⟨by
            have h1 := HT.out.later hbz
            rw [preN_mid Hx.out] at h1
            exact h1, kz, HB.out.trans (hbz.mono HB.out.size), HI.out.df, HI.out.nm, HI.out.nd, HI.out.ll, HI.out.lm⟩
          have Hv : Hid (vs[i]? = some (.slice (some ⟨gv, 0, none⟩) d.ty.length cv)) := hide_ (by rw [Hm.out]; exact hv)
          have HWz : Hid (w.heap.size ≤ wq.heap.size) := hide_ HB.out.size
          have HGl : Hid (gv < wq.heap.size) := hide_ hgl
          have hL1 : L.length ≤ 700000 := by have := HI.out.ll; omega
          have hM1 : M.length ≤ 700000 := by have := HI.out.lm; omega
          clear hcell e2 hv hx kz hbz HT HI HB hgB hgl hpl
          go_upto_region 15 with fail
          rw [← hwz]
          clear hwz p0 p1 p2 p3 p4 p5 p6 q0 c2
          have z2 := HNd.out.bx.cell 2; have z3 := HNd.out.bx.cell 3
          simp [ndc] at z2 z3
          go_cut [7] from 72 to 84 (fun x7 wc => ∃ f2 : Bool, x7 = .bool f2 ∧ wz = wc)
          case first =>
            cases fr3 with
            | false =>
              go_wp2_with fail
              go_meet
              case rel => exact ⟨false, rfl, rfl⟩
            | true =>
              have HO := hide_ (odd_any x.name wz)
              have HO2 := hide_ (odd_any x.label wz)
              go_wp2_with fail
              refine HO.out.mono ?_; rintro e w' ⟨r2, rfl, rfl⟩
              cases r2 with
              | true =>
                go_wp2_with fail
                go_meet
                case rel => exact ⟨_, rfl, rfl⟩
              | false =>
                go_wp2_with fail
                refine HO2.out.mono ?_; rintro e w' ⟨r3, rfl, rfl⟩
                go_wp2_with fail
                go_meet
                case rel => exact ⟨_, rfl, rfl⟩
          case rest =>
          obtain ⟨fr4, rfl, rfl⟩ := hcut
          go_upto_if 87 with fail
          go_cut [9] from 87 to 103 (fun x9 wc => ∃ (u1 : Value) (L2 : List ByteArray) (wy : World), wy = wc ∧ Hid (NdT w D i d j x bo b1 b2 br wq.heap.size (.slice (some ⟨g, 0, none⟩) n dc) vs wy { x with name := fN L2 x.name } u1 v2 L2 M (j + 1) j) ∧ Hid (x.name.size ≠ 0 → x.name ∈ L2))
          case first =>
            by_cases hz : x.name.size = 0
            · have hx0 : x.name = ⟨#[]⟩ := by
                apply ByteArray.ext
                exact Array.eq_empty_of_size_eq_zero hz
              have hxe : (x.name.toList == []) = true := by rw [hx0, Lib.toList_data]; rfl
              have hxe2 : x.name.toList.isEmpty = true := by rw [hx0, Lib.toList_data]; rfl
              have HK : Hid (NdT w D i d j x bo b1 b2 br wq.heap.size (.slice (some ⟨g, 0, none⟩) n dc) vs wz { x with name := fN L x.name } v1 v2 L M (j + 1) j) := hide_ (by
                have e9 : ({ x with name := fN L x.name } : Nd) = x := by unfold fN; rw [if_pos hz]
                rw [e9]
                exact ⟨HNd.out.st, HNd.out.bx, HNd.out.bel, HNd.out.df, HNd.out.nm, HNd.out.nd, by have := HNd.out.ll; omega, HNd.out.lm⟩)
              clear hx0
              rw [hxe2]
              simp only [Bool.not_true]
              go_wp2_with fail
              go_meet
              case rel => exact ⟨v1, L, _, rfl, HK, hide_ (fun h => absurd hz h)⟩
            · obtain ⟨n0, n1⟩ := name_ne (s := x.name) (by omega)
              have HA := hide_ (at_any b1 w.heap.size v1 L x.name wz (by omega) hs2 (hide_ HNd.out.st.l1))
              rw [n1]
              simp only [Bool.not_false]
              go_upto_region 17 with fail
              go_wp2_with fail
              refine HA.out.mono ?_; intro e w2 hA
              obtain ⟨rfl, v3, hN2⟩ := HNd.out.at1 hA
              have hmem := addN_mem L x.name
              have hlen : (addN L x.name).length ≤ L.length + 1 := by obtain ⟨X, hX, hX1⟩ := addN_app L x.name; rw [hX, List.length_append]; omega
              generalize addN L x.name = L2 at *
              have hkl := ix_lt hmem
              have HN2 := hide_ hN2
              have HMem := hide_ hmem
              obtain ⟨k, hk⟩ : ∃ k, ixN L2 x.name = k := ⟨_, rfl⟩
              have Hk := hide_ hk
              rw [hk] at hkl ⊢
              have hkb : k ≤ 4000000 := by omega
              obtain ⟨ZX, hZX⟩ : ∃ ZX, (⟨(decF 20 k).toArray⟩ : ByteArray) = ZX := ⟨_, rfl⟩
              have HDg : Hid (Calls Try.prog 15 #[.int .i64 (k : Int)] w2.drew fun e w' => e = .returned (.string ZX) ∧ Below w2.drew.heap.size w2.drew w') := hide_ (by rw [← hZX]; exact digits_any 19 k w2.drew (by omega) (Nat.lt_of_le_of_lt hkb (by decide)) (by omega))
              have hZs : ZX.size ≤ 20 := by rw [← hZX, Lib.size_eq]; have := decF_len 20 k; simpa using this
              have hZc : ¬ 9223372036854775807 < 2 + ZX.size := by omega
              have HZ : Hid (fN L2 x.name = (⟨#[122, 113]⟩ : ByteArray) ++ ZX) := hide_ (by unfold fN; rw [if_neg hz, hk, ← hZX]; rfl)
              have HTw : Hid (∀ w3, Below w2.heap.size w2 w3 → (∃ q, w3.cell? ⟨gv, j * 7 + 2, none⟩ = some q) ∧ w3.frozen? ⟨gv, j * 7 + 2, none⟩ = false ∧ NdT w D i d j x bo b1 b2 br wq.heap.size (.slice (some ⟨g, 0, none⟩) n dc) vs (w3.setCell ⟨gv, j * 7 + 2, none⟩ (.string ((⟨#[122, 113]⟩ : ByteArray) ++ ZX))) { x with name := fN L2 x.name } v3 v2 L2 M (j + 1) j) := hide_ (fun w3 hb3 => by
                obtain ⟨g', e1, -, c1, c2, hP⟩ := (HN2.out.later hb3).put hiD (by omega) (f := 2) (by decide) (ndc_nm _ ((⟨#[122, 113]⟩ : ByteArray) ++ ZX)) Hv.out HWz.out (fun q hq e => by have h1 : gv = q := own_is hq; have h2 := HGl.out; omega)
                obtain rfl : gv = g' := by injection e1 with e1; injection e1
                rw [HZ.out]
                exact ⟨c1, c2, hP⟩)
              have HSS : Hid (∀ w', Below w2.heap.size w2 w' → (fun w' => w'.cell? ⟨bo, 0, none⟩ = some (.slice (some ⟨g, 0, none⟩) n dc) ∧ w'.cell? ⟨g, i * 3 + 2, none⟩ = some (.slice (some ⟨gv, 0, none⟩) m cv)) w') := hide_ (fun w' hb => by
                have h1 := (HN2.out.later hb).cells hiD (by omega) Hv.out
                rw [Hm.out] at h1
                exact h1)
              have HFz : Hid (∀ w', Below w2.heap.size w2 w' → (∃ q, w'.cell? ⟨gv, j * 7 + 2, none⟩ = some q) ∧ w'.frozen? ⟨gv, j * 7 + 2, none⟩ = false) := hide_ (fun w' hb => ⟨(HTw.out w' hb).1, (HTw.out w' hb).2.1⟩)
              clear hmem hlen hkl hN2 HA hA hk hZX n0 n1
              go_upto_region 18 with fail
              refine wp_region_last 12 (fun w' => w'.cell? ⟨bo, 0, none⟩ = some (.slice (some ⟨g, 0, none⟩) n dc) ∧ w'.cell? ⟨g, i * 3 + 2, none⟩ = some (.slice (some ⟨gv, 0, none⟩) m cv)) (by kernel_rfl) (HSS.out _ ((Below.refl w2.heap.size w2).drew)) (fun hHeld => ?_)
              refine wpAnyF_take [12] (by kernel_rfl) (i := 0) (v := ?vb1) rfl (by kernel_rfl) (by kernel_rfl) (by kernel_rfl) (fun _ _ _ h => h) (Or.inl ⟨by kernel_rfl, ?hyb1⟩) hHeld ?restb1
              case hyb1 => intro w' hSw; (try dsimp only at hSw); go_simp; try with_reducible rfl
              simp only [Act.put]
              refine wpAnyF_take [12] (by kernel_rfl) (i := 1) (v := ?vb2) rfl (by kernel_rfl) (by kernel_rfl) (by kernel_rfl) (fun _ _ _ h => h) (Or.inl ⟨by kernel_rfl, ?hyb2⟩) hHeld ?restb2
              case hyb2 => intro w' hSw; (try dsimp only at hSw); go_simp; try with_reducible rfl
              simp only [Act.put]
              refine wpAnyF_take [12] (by kernel_rfl) (i := 2) (v := ?vb3) rfl (by kernel_rfl) (by kernel_rfl) (by kernel_rfl) (fun _ _ _ h => h) (Or.inl ⟨by kernel_rfl, ?hyb3⟩) hHeld ?restb3
              case hyb3 => intro w' hSw; (try dsimp only at hSw); go_simp; try with_reducible rfl
              simp only [Act.put]
              refine wpAnyF_take [12] (by kernel_rfl) (i := 3) (v := ?vb4) rfl (by kernel_rfl) (by kernel_rfl) (by kernel_rfl) (fun _ _ _ h => h) (Or.inl ⟨by kernel_rfl, ?hyb4⟩) hHeld ?restb4
              case hyb4 => intro w' hSw; (try dsimp only at hSw); go_simp; try with_reducible rfl
              simp only [Act.put]
              refine wpAnyF_take [12] (by kernel_rfl) (i := 4) (v := ?vb5) rfl (by kernel_rfl) (by kernel_rfl) (by kernel_rfl) (fun _ _ _ h => h) (Or.inl ⟨by kernel_rfl, ?hyb5⟩) hHeld ?restb5
              case hyb5 => intro w' hSw; (try dsimp only at hSw); go_simp; try with_reducible rfl
              simp only [Act.put]
              refine wpAnyF_take [12] (by kernel_rfl) (i := 5) (v := ?vb6) rfl (by kernel_rfl) (by kernel_rfl) (by kernel_rfl) (fun _ _ _ h => h) (Or.inl ⟨by kernel_rfl, ?hyb6⟩) hHeld ?restb6
              case hyb6 => intro w' hSw; (try dsimp only at hSw); go_simp; try with_reducible rfl
              simp only [Act.put]
              refine wpAnyF_take [12] (by kernel_rfl) (i := 6) (v := ?vb7) rfl (by kernel_rfl) (by kernel_rfl) (by kernel_rfl) (fun _ _ _ h => h) (Or.inl ⟨by kernel_rfl, ?hyb7⟩) hHeld ?restb7
              case hyb7 => intro w' hSw; (try dsimp only at hSw); go_simp; try with_reducible rfl
              simp only [Act.put]
              refine wpAnyF_take [12] (by kernel_rfl) (i := 7) (v := ?vb8) rfl (by kernel_rfl) (by kernel_rfl) (by kernel_rfl) (fun _ _ _ h => h) (Or.inl ⟨by kernel_rfl, ?hyb8⟩) hHeld ?restb8
              case hyb8 => intro w' hSw; (try dsimp only at hSw); go_simp; try with_reducible rfl
              simp only [Act.put]
              refine wpAnyF_ready (rs := [8]) (by kernel_rfl) (by simp) ?_
              refine AllReadyF.cons rfl (fun K hK => ?_) AllReadyF.nil
              go_simp
              refine HDg.out.mono ?_
              rintro e w3 ⟨rfl, hBg⟩
              dsimp only
              have HBg := hide_ hBg
              clear hBg
              refine hK.out _ _ (HSS.out _ (below_to ((Below.refl w2.heap.size w2).drew) HBg.out)) (fun hHeld => ?_)
              clear hK K
              refine wpAnyF_take [12] (by kernel_rfl) (i := 9) (v := ?vb9) rfl (by kernel_rfl) (by kernel_rfl) (by kernel_rfl) (fun _ _ _ h => h) (Or.inl ⟨by kernel_rfl, ?hyb9⟩) hHeld ?restb9
              case hyb9 => intro w' hSw; (try dsimp only at hSw); go_simp; try with_reducible rfl
              simp only [Act.put]
              refine wpAnyF_take [12, 11] (by kernel_rfl) (i := 10) (v := ?vb10) rfl (by kernel_rfl) (by kernel_rfl) (by kernel_rfl) (fun _ _ _ h => h) (Or.inl ⟨by kernel_rfl, ?hyb10⟩) hHeld ?restb10
              case hyb10 => intro w' hSw; (try dsimp only at hSw); go_simp; try with_reducible rfl
              simp only [Act.put]
              refine wpAnyF_take [12] (by kernel_rfl) (i := 11) (v := ?vb11) rfl (by kernel_rfl) (by kernel_rfl) (by kernel_rfl) (fun _ _ _ h => h) (Or.inl ⟨by kernel_rfl, ?hyb11⟩) hHeld ?restb11
              case hyb11 => intro w' hSw; (try dsimp only at hSw); go_simp; try with_reducible rfl
              simp only [Act.put]
              refine wpAnyF_ready (rs := [12]) (by kernel_rfl) (by simp) ?_
              refine AllReadyF.last rfl (fun K hK => ?_)
              have qz := HFz.out w3 (below_to ((Below.refl w2.heap.size w2).drew) HBg.out)
              obtain ⟨⟨qx, qz1⟩, qz2⟩ := qz
              go_simp
              refine hK.out _ _ ?_
              clear hK K
              refine wpAnyF_done (by kernel_rfl) ?_ _
              have HK := hide_ (HTw.out w3 (below_to ((Below.refl w2.heap.size w2).drew) HBg.out)).2.2
              clear HTw HSS HFz HDg HN2 HNd
              go_wp2_with fail
              go_meet
              case rel => exact ⟨v3, L2, _, rfl, HK, hide_ (fun _ => HMem.out)⟩
          case rest =>
          clear HNd
          obtain ⟨v1, L, wz, rfl, HNd, HxN⟩ := hcut
          clear z2 z3
          have z2 := HNd.out.bx.cell 2; have z3 := HNd.out.bx.cell 3
          simp [ndc] at z2 z3
          have hL1 : L.length ≤ 700000 := by have := HNd.out.ll; omega
          have hM1 : M.length ≤ 700000 := by have := HNd.out.lm; omega
          by_cases hz : x.label.size = 0
          · have hx0 : x.label = ⟨#[]⟩ := by
              apply ByteArray.ext
              exact Array.eq_empty_of_size_eq_zero hz
            have hxe : (x.label.toList == []) = true := by rw [hx0, Lib.toList_data]; rfl
            have hxe2 : x.label.toList.isEmpty = true := by rw [hx0, Lib.toList_data]; rfl
            have HK : Hid (NdT w D i d j x bo b1 b2 br wq.heap.size (.slice (some ⟨g, 0, none⟩) n dc) vs wz { x with name := fN L x.name, label := fN M x.label } v1 v2 L M (j + 1) (j + 1)) := hide_ (by
              have e9 : ({ x with name := fN L x.name, label := fN M x.label } : Nd) = { x with name := fN L x.name } := by have : fN M x.label = x.label := by { unfold fN; rw [if_pos hz] }; rw [this]
              rw [e9]
              exact ⟨HNd.out.st, HNd.out.bx, HNd.out.bel, HNd.out.df, HNd.out.nm, HNd.out.nd, HNd.out.ll, by have := HNd.out.lm; omega⟩)
            clear hx0
            have HF := HK.out.fin Hx.out ⟨HxN.out, fun h => absurd hz h⟩
            have HFt := hide_ HF.1
            have HFi := hide_ HF.2.1
            have HFb := hide_ HF.2.2
            clear HF
            go_wp2_with fail
            go_roundw
            case rel => exact ⟨j + 1, _, _, _, _, _, by omega, rfl, by go_num, HFt, HFi, HFb⟩
            case measure => simp [intOf]; omega
          · obtain ⟨n0, n1⟩ := name_ne (s := x.label) (by omega)
            have HA := hide_ (at_any b2 w.heap.size v2 M x.label wz (by omega) hs3 (hide_ HNd.out.st.l2))
            go_upto_region 20 with fail
            go_wp2_with fail
            refine HA.out.mono ?_; intro e w2 hA
            obtain ⟨rfl, v3, hN2⟩ := HNd.out.at2 hA
            have hmem := addN_mem M x.label
            have hlen : (addN M x.label).length ≤ M.length + 1 := by obtain ⟨X, hX, hX1⟩ := addN_app M x.label; rw [hX, List.length_append]; omega
            generalize addN M x.label = M2 at *
            have hkl := ix_lt hmem
            have HN2 := hide_ hN2
            have HMem := hide_ hmem
            obtain ⟨k, hk⟩ : ∃ k, ixN M2 x.label = k := ⟨_, rfl⟩
            have Hk := hide_ hk
            rw [hk] at hkl ⊢
            have hkb : k ≤ 4000000 := by omega
            obtain ⟨ZX, hZX⟩ : ∃ ZX, (⟨(decF 20 k).toArray⟩ : ByteArray) = ZX := ⟨_, rfl⟩
            have HDg : Hid (Calls Try.prog 15 #[.int .i64 (k : Int)] w2.drew fun e w' => e = .returned (.string ZX) ∧ Below w2.drew.heap.size w2.drew w') := hide_ (by rw [← hZX]; exact digits_any 19 k w2.drew (by omega) (Nat.lt_of_le_of_lt hkb (by decide)) (by omega))
            have hZs : ZX.size ≤ 20 := by rw [← hZX, Lib.size_eq]; have := decF_len 20 k; simpa using this
            have hZc : ¬ 9223372036854775807 < 2 + ZX.size := by omega
            have HZ : Hid (fN M2 x.label = (⟨#[122, 113]⟩ : ByteArray) ++ ZX) := hide_ (by unfold fN; rw [if_neg hz, hk, ← hZX]; rfl)
            have HTw : Hid (∀ w3, Below w2.heap.size w2 w3 → (∃ q, w3.cell? ⟨gv, j * 7 + 3, none⟩ = some q) ∧ w3.frozen? ⟨gv, j * 7 + 3, none⟩ = false ∧ NdT w D i d j x bo b1 b2 br wq.heap.size (.slice (some ⟨g, 0, none⟩) n dc) vs (w3.setCell ⟨gv, j * 7 + 3, none⟩ (.string ((⟨#[122, 113]⟩ : ByteArray) ++ ZX))) { x with name := fN L x.name, label := fN M2 x.label } v1 v3 L M2 (j + 1) (j + 1)) := hide_ (fun w3 hb3 => by
              obtain ⟨g', e1, -, c1, c2, hP⟩ := (HN2.out.later hb3).put hiD (by omega) (f := 3) (by decide) (ndc_lb _ ((⟨#[122, 113]⟩ : ByteArray) ++ ZX)) Hv.out HWz.out (fun q hq e => by have h1 : gv = q := own_is hq; have h2 := HGl.out; omega)
              obtain rfl : gv = g' := by injection e1 with e1; injection e1
              rw [HZ.out]
              exact ⟨c1, c2, hP⟩)
            have HSS : Hid (∀ w', Below w2.heap.size w2 w' → (fun w' => w'.cell? ⟨bo, 0, none⟩ = some (.slice (some ⟨g, 0, none⟩) n dc) ∧ w'.cell? ⟨g, i * 3 + 2, none⟩ = some (.slice (some ⟨gv, 0, none⟩) m cv)) w') := hide_ (fun w' hb => by
              have h1 := (HN2.out.later hb).cells hiD (by omega) Hv.out
              rw [Hm.out] at h1
              exact h1)
            have HFz : Hid (∀ w', Below w2.heap.size w2 w' → (∃ q, w'.cell? ⟨gv, j * 7 + 3, none⟩ = some q) ∧ w'.frozen? ⟨gv, j * 7 + 3, none⟩ = false) := hide_ (fun w' hb => ⟨(HTw.out w' hb).1, (HTw.out w' hb).2.1⟩)
            clear hmem hlen hkl hN2 HA hA hk hZX n0 n1
            go_upto_region 21 with fail
            refine wp_region_last 12 (fun w' => w'.cell? ⟨bo, 0, none⟩ = some (.slice (some ⟨g, 0, none⟩) n dc) ∧ w'.cell? ⟨g, i * 3 + 2, none⟩ = some (.slice (some ⟨gv, 0, none⟩) m cv)) (by kernel_rfl) (HSS.out _ ((Below.refl w2.heap.size w2).drew)) (fun hHeld => ?_)
            refine wpAnyF_take [12] (by kernel_rfl) (i := 0) (v := ?vc1) rfl (by kernel_rfl) (by kernel_rfl) (by kernel_rfl) (fun _ _ _ h => h) (Or.inl ⟨by kernel_rfl, ?hyc1⟩) hHeld ?restc1
            case hyc1 => intro w' hSw; (try dsimp only at hSw); go_simp; try with_reducible rfl
            simp only [Act.put]
            refine wpAnyF_take [12] (by kernel_rfl) (i := 1) (v := ?vc2) rfl (by kernel_rfl) (by kernel_rfl) (by kernel_rfl) (fun _ _ _ h => h) (Or.inl ⟨by kernel_rfl, ?hyc2⟩) hHeld ?restc2
            case hyc2 => intro w' hSw; (try dsimp only at hSw); go_simp; try with_reducible rfl
            simp only [Act.put]
            refine wpAnyF_take [12] (by kernel_rfl) (i := 2) (v := ?vc3) rfl (by kernel_rfl) (by kernel_rfl) (by kernel_rfl) (fun _ _ _ h => h) (Or.inl ⟨by kernel_rfl, ?hyc3⟩) hHeld ?restc3
            case hyc3 => intro w' hSw; (try dsimp only at hSw); go_simp; try with_reducible rfl
            simp only [Act.put]
            refine wpAnyF_take [12] (by kernel_rfl) (i := 3) (v := ?vc4) rfl (by kernel_rfl) (by kernel_rfl) (by kernel_rfl) (fun _ _ _ h => h) (Or.inl ⟨by kernel_rfl, ?hyc4⟩) hHeld ?restc4
            case hyc4 => intro w' hSw; (try dsimp only at hSw); go_simp; try with_reducible rfl
            simp only [Act.put]
            refine wpAnyF_take [12] (by kernel_rfl) (i := 4) (v := ?vc5) rfl (by kernel_rfl) (by kernel_rfl) (by kernel_rfl) (fun _ _ _ h => h) (Or.inl ⟨by kernel_rfl, ?hyc5⟩) hHeld ?restc5
            case hyc5 => intro w' hSw; (try dsimp only at hSw); go_simp; try with_reducible rfl
            simp only [Act.put]
            refine wpAnyF_take [12] (by kernel_rfl) (i := 5) (v := ?vc6) rfl (by kernel_rfl) (by kernel_rfl) (by kernel_rfl) (fun _ _ _ h => h) (Or.inl ⟨by kernel_rfl, ?hyc6⟩) hHeld ?restc6
            case hyc6 => intro w' hSw; (try dsimp only at hSw); go_simp; try with_reducible rfl
            simp only [Act.put]
            refine wpAnyF_take [12] (by kernel_rfl) (i := 6) (v := ?vc7) rfl (by kernel_rfl) (by kernel_rfl) (by kernel_rfl) (fun _ _ _ h => h) (Or.inl ⟨by kernel_rfl, ?hyc7⟩) hHeld ?restc7
            case hyc7 => intro w' hSw; (try dsimp only at hSw); go_simp; try with_reducible rfl
            simp only [Act.put]
            refine wpAnyF_take [12] (by kernel_rfl) (i := 7) (v := ?vc8) rfl (by kernel_rfl) (by kernel_rfl) (by kernel_rfl) (fun _ _ _ h => h) (Or.inl ⟨by kernel_rfl, ?hyc8⟩) hHeld ?restc8
            case hyc8 => intro w' hSw; (try dsimp only at hSw); go_simp; try with_reducible rfl
            simp only [Act.put]
            refine wpAnyF_ready (rs := [8]) (by kernel_rfl) (by simp) ?_
            refine AllReadyF.cons rfl (fun K hK => ?_) AllReadyF.nil
            go_simp
            refine HDg.out.mono ?_
            rintro e w3 ⟨rfl, hBg⟩
            dsimp only
            have HBg := hide_ hBg
            clear hBg
            refine hK.out _ _ (HSS.out _ (below_to ((Below.refl w2.heap.size w2).drew) HBg.out)) (fun hHeld => ?_)
            clear hK K
            refine wpAnyF_take [12] (by kernel_rfl) (i := 9) (v := ?vc9) rfl (by kernel_rfl) (by kernel_rfl) (by kernel_rfl) (fun _ _ _ h => h) (Or.inl ⟨by kernel_rfl, ?hyc9⟩) hHeld ?restc9
            case hyc9 => intro w' hSw; (try dsimp only at hSw); go_simp; try with_reducible rfl
            simp only [Act.put]
            refine wpAnyF_take [12, 11] (by kernel_rfl) (i := 10) (v := ?vc10) rfl (by kernel_rfl) (by kernel_rfl) (by kernel_rfl) (fun _ _ _ h => h) (Or.inl ⟨by kernel_rfl, ?hyc10⟩) hHeld ?restc10
            case hyc10 => intro w' hSw; (try dsimp only at hSw); go_simp; try with_reducible rfl
            simp only [Act.put]
            refine wpAnyF_take [12] (by kernel_rfl) (i := 11) (v := ?vc11) rfl (by kernel_rfl) (by kernel_rfl) (by kernel_rfl) (fun _ _ _ h => h) (Or.inl ⟨by kernel_rfl, ?hyc11⟩) hHeld ?restc11
            case hyc11 => intro w' hSw; (try dsimp only at hSw); go_simp; try with_reducible rfl
            simp only [Act.put]
            refine wpAnyF_ready (rs := [12]) (by kernel_rfl) (by simp) ?_
            refine AllReadyF.last rfl (fun K hK => ?_)
            have qz := HFz.out w3 (below_to ((Below.refl w2.heap.size w2).drew) HBg.out)
            obtain ⟨⟨qx, qz1⟩, qz2⟩ := qz
            go_simp
            refine hK.out _ _ ?_
            clear hK K
            refine wpAnyF_done (by kernel_rfl) ?_ _
            have HK := hide_ (HTw.out w3 (below_to ((Below.refl w2.heap.size w2).drew) HBg.out)).2.2
            clear HTw HSS HFz HDg HN2 HNd
            have HF := HK.out.fin Hx.out ⟨HxN.out, fun _ => HMem.out⟩
            have HFt := hide_ HF.1
            have HFi := hide_ HF.2.1
            have HFb := hide_ HF.2.2
            clear HF
            go_wp2_with fail
            go_roundw
            case rel => exact ⟨j + 1, _, _, _, _, _, by omega, rfl, by go_num, HFt, HFi, HFb⟩
            case measure => simp [intOf]; omega
        · obtain rfl : j = m := by omega
          have hjm' : ¬ (j : Int) < (j : Int) := by omega
          have HTn : Hid (TnS w.heap.size wq bo b1 b2 br (.slice (some ⟨g, 0, none⟩) n dc) v1 v2 (preD D L M (i + 1)) vs L M) := hide_ (by
            have h1 := HT.out
            rw [← Hm.out, preN_all, midD_done Hd.out] at h1
            exact h1)
          have HIn : Hid (InL D L M (i + 1)) := hide_ ⟨fun d2 h2 => by
            rw [List.take_add_one, Hd.out] at h2
            rcases List.mem_append.1 h2 with h2 | h2
            · exact HI.out.df d2 h2
            · simp at h2
              subst h2
              refine ⟨HI.out.nm, fun x hx => HI.out.nd x ?_⟩
              rw [← Hm.out, List.take_length]; exact hx, by have h1 := HI.out.ll; have h2 := HsT.out; have h3 := Hm.out; omega, by have h1 := HI.out.lm; have h2 := HsT.out; have h3 := Hm.out; omega⟩
          clear hv hpl
          go_wp2_with fail
          go_roundw
          case rel => exact ⟨i + 1, _, _, _, _, _, by omega, rfl, by go_num, HTn, HIn, HB⟩
          case measure => simp [intOf]; omega
    · obtain rfl : i = n := by omega
      have hlt' : ¬ (i : Int) < (i : Int) := by omega
      have k1 := HT.out.rt.cell 0; have k2 := HT.out.rt.frozen 0
      simp at k1
      have hpa : preD D L M i = D.map (tnD L M) := by rw [← Hn.out]; exact preD_all D L M
      have hu9 : Upd (fun q => q = br) wq (wq.setCell ⟨br, 0, none⟩ (.slice da i dc)) := (Upd.refl _ wq).set _ _ (.inl rfl)
      have HSf : Hid (Src (wq.setCell ⟨br, 0, none⟩ (.slice da i dc)) w.heap.size (.slice da i dc) (D.map (tnD L M)) vs) := hide_ (by rw [← hpa]; exact HT.out.src.other hu9 HT.out.rt (by decide) (by decide))
      have HKf : Hid (Blk (wq.setCell ⟨br, 0, none⟩ (.slice da i dc)) br 24 [.slice da i dc]) := hide_ (by have := HT.out.rt.set 0 (.slice da i dc); simpa using this)
      have HBf : Hid (Below w.heap.size w (wq.setCell ⟨br, 0, none⟩ (.slice da i dc))) := hide_ (HB.out.trans (hu9.below _ HB.out.size (fun q e => by have := HT.out.hb.2.2.2; omega)))
      have HAll : Hid (∀ d ∈ D, InD L M d) := hide_ (by have h1 := HI.out.df; rw [← Hn.out, List.take_length] at h1; exact h1)
      have HLn2 : Hid (L.length ≤ 4000000 ∧ M.length ≤ 4000000) := hide_ (by have h1 := HI.out.ll; have h2 := HI.out.lm; have h3 := sumN_le (D := D) i; have h4 := hN.out; omega)
      clear hpa hu9
      go_wp2_with fail
      refine retST9 rfl rfl rfl HKf.out ?_
      exact ⟨_, vs, _, L, M, rfl, HSf, HAll, HLn2, HBf⟩
end Go.Proofs.Ytjeafblkmipdmaa
