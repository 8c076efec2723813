import Derived.Test.YtncndgfaalojpaaJrd
import Derived.Test.YtncndgfaalojpaaZp
import Derived.Test.YtncndgfaalojpaaEg
/- The document's extents of a schema: Of. -/
namespace Go.Proofs.Ytncndgfaalojpaa
open Go.RowKit
set_option linter.unusedVariables false

theorem one_any (k n el : Int) (ps : List Pt) (va : Option Addr) (vc : Nat) (X : List Ex) (ax : Option Addr) (cx : Nat) (w : World) (hXl : X.length ≤ 10000000000000) (hbd : Hid (∀ x ∈ X, XOk x ∧ x.d ≤ 1000000)) (hok : Hid (tyOk ⟨k, n, el, ps⟩ X.length = true)) (hP : Hid (PRow w va ps)) (hX : Hid (XRow w ax X)) :
    Calls Try.prog 33 #[.agg #[.int .i64 k, .int .i64 n, .int .i64 el, .slice va ps.length vc], .slice ax X.length cx] w fun e w' => e = .returned (exv (ext1 X ⟨k, n, el, ps⟩)) ∧ Below w.heap.size w w' := by
  have hn := nOk_n hok.out
  simp only at hn
  have hk : k = 1 ∨ k = 2 ∨ k = 3 ∨ k = 4 ∨ k = 5 ∨ k = 6 ∨ k = 7 ∨ k = 8 := by omega
  have hbd2 : Hid (∀ x ∈ X, 0 ≤ x.d ∧ x.d ≤ 1000000) := hide_ (fun x hx => ⟨(hbd.out x hx).1.d0, (hbd.out x hx).2⟩)
  have hpt : Hid (∀ (j : Nat) (p : Pt), ps[j]? = some p → 0 ≤ p.ty ∧ p.ty < X.length) := hide_ (fun j p hp => tyOk_part hok.out hp)
  have hpl : ps.length ≤ 64 := tyOk_len hok.out
  have hx0 : XOk (exAt X el) := XOk.at (fun x hx => (hbd.out x hx).1) el
  have h0 := hx0.l0; have h1 := hx0.lm; have h2 := hx0.mh; have h3 := hx0.d0
  have hd1 : deepX [exAt X el] = (exAt X el).d := by
    simp only [deepX, List.foldl_cons, List.foldl_nil]
    omega
  rcases hk with rfl | rfl | rfl | rfl | rfl | rfl | rfl | rfl
  · have hps : ps = [] := tyOk_none hok.out (by simp) (by simp)
    have e : ext1 X ⟨1, n, el, ps⟩ = ⟨true, n, n, 1⟩ := by rw [hps]; rfl
    rw [e]
    exact one1_any n el ps va vc _ w
  · have hps : ps = [] := tyOk_none hok.out (by simp) (by simp)
    have e : ext1 X ⟨2, n, el, ps⟩ = ⟨true, 1, 1, 1⟩ := by rw [hps]; rfl
    rw [e]
    exact one2_any n el ps va vc _ w
  · have hps : ps = [] := tyOk_none hok.out (by simp) (by simp)
    have e : ext1 X ⟨3, n, el, ps⟩ = ⟨false, 1, 10, 1⟩ := by rw [hps]; rfl
    rw [e]
    exact one3_any n el ps va vc _ w
  · have hps : ps = [] := tyOk_none hok.out (by simp) (by simp)
    have e : ext1 X ⟨4, n, el, ps⟩ = ⟨(exAt X el).f, times2 n (offX (exAt X el)).l, times2 n (offX (exAt X el)).m, 1 + (exAt X el).d⟩ := by
      have e1 : ext1 X ⟨4, n, el, ps⟩ = ⟨(offX (exAt X el)).f, times2 n (offX (exAt X el)).l, times2 n (offX (exAt X el)).m, 1 + deepX [exAt X el]⟩ := by rw [hps]; rfl
      rw [e1, hd1, off_f]
    rw [e]
    exact one4_any n el ps va vc X ax cx w hXl hbd2 (tyOk_elem hok.out rfl) hX
  · have hps : ps = [] := tyOk_none hok.out (by simp) (by simp)
    have e : ext1 X ⟨5, n, el, ps⟩ = ⟨false, 0, times2 n (offX (exAt X el)).m, 1 + (exAt X el).d⟩ := by
      have e1 : ext1 X ⟨5, n, el, ps⟩ = ⟨false, times2 0 (offX (exAt X el)).l, times2 n (offX (exAt X el)).m, 1 + deepX [exAt X el]⟩ := by rw [hps]; rfl
      have e2 : times2 0 (offX (exAt X el)).l = 0 := by unfold times2; rw [show sz 0 = 0 from rfl, Int.zero_mul]; rfl
      rw [e1, hd1, e2]
    rw [e]
    exact one5_any n el ps va vc X ax cx w hXl hbd2 (tyOk_elem hok.out rfl) hX
  · have hps : ps = [] := tyOk_none hok.out (by simp) (by simp)
    have e : ext1 X ⟨6, n, el, ps⟩ = ⟨false, 1, plus2 1 (exAt X el).m, 1 + (exAt X el).d⟩ := by
      have e1 : ext1 X ⟨6, n, el, ps⟩ = ⟨false, plus2 1 (chX ([exAt X el] ++ [ex0])).1, plus2 1 (chX ([exAt X el] ++ [ex0])).2, 1 + deepX [exAt X el]⟩ := by rw [hps]; rfl
      have e2 : chX ([exAt X el] ++ [ex0]) = (0, (exAt X el).m) := by
        simp only [chX, List.cons_append, List.nil_append, List.foldl_cons, List.foldl_nil, ex0]
        refine Prod.ext ?_ ?_ <;> (simp only; omega)
      rw [e1, hd1, e2]
      rfl
    rw [e]
    exact one6_any n el ps va vc X ax cx w hXl hbd2 (tyOk_elem hok.out rfl) hX
  · exact one7_any n el ps va vc X ax cx w hXl hbd (tyOk_pos hok.out (.inl rfl)) hpl hpt hP hX
  · exact one8_any n el ps va vc X ax cx w hXl hbd (tyOk_pos hok.out (.inr rfl)) hpl hpt hP hX
theorem extL_bd2 {T : List Ty} {R : List Rt} (h : OkS T R) (i : Nat) (hi : i ≤ T.length) : ∀ x ∈ extL (T.take i), XOk x ∧ x.d ≤ 1000000 := fun x hx => ⟨(extL_ok h i hi x hx).1, (extL_bd h i hi x hx).2⟩
set_option maxRecDepth 100000 in
set_option maxHeartbeats 8000000 in
theorem ofR_any (a : Option Addr) (c : Nat) (T : List Ty) (ar : Option Addr) (cr : Nat) (R : List Rt) (w : World) (hn : T.length ≤ 3000000000000) (hm : R.length ≤ 10000000000000) (hL : Hid (LensT T)) (hT : Hid (TRow w a T)) (hR : Hid (RRow w ar R)) :
    Calls Try.prog 17 #[.agg #[.slice a T.length c, .slice ar R.length cr]] w fun e w' => OfTo T R w e w' := by
  have hB := below1 w (.cells #[.slice a T.length c, .slice ar R.length cr] 25)
  have k1 := Blk.newA w #[.slice a T.length c, .slice ar R.length cr] 25
  obtain ⟨w0, hw0⟩ : ∃ wx, wx = w.alloc (.cells #[.slice a T.length c, .slice ar R.length cr] 25) := ⟨_, rfl⟩
  rw [← hw0] at hB k1
  have HB0 := hide_ hB
  have K1 := hide_ k1
  have hs1 : w.heap.size < w0.heap.size := k1.lt
  have i0 := k1.cell 0; have i1 := k1.cell 1
  simp at i0 i1
  have HCk := hide_ (checkR_any a c T ar cr R w0 (by omega) hm hL (hide_ (hT.out.later hB)) (hide_ (hR.out.later hB)))
  obtain ⟨vE, hE⟩ : ∃ vE, (chk T R).1 = vE := ⟨_, rfl⟩
  obtain ⟨vA, hA⟩ : ∃ vA, (chk T R).2 = vA := ⟨_, rfl⟩
  rw [hE, hA] at HCk
  have HE := hide_ hE
  clear hB k1 hE hA
  go_enter Try.func17, Try.ntmps17
  go_upto_region 1 with fail
  rw [← hw0]
  clear hw0
  go_wp2_with fail
  refine HCk.out.mono ?_; rintro e w1 ⟨rfl, hB1⟩
  have kf := Blk.newA w1 #[.int .i64 vE, .int .i64 vA] 60
  have hB2 := below1 w1 (.cells #[.int .i64 vE, .int .i64 vA] 60)
  obtain ⟨w2, hw2⟩ : ∃ wx, wx = w1.alloc (.cells #[.int .i64 vE, .int .i64 vA] 60) := ⟨_, rfl⟩
  rw [← hw2] at kf hB2
  have HB2 := hide_ (below_to hB1 hB2)
  have j0 := kf.cell 0
  simp at j0
  clear hB1 hB2 kf HCk i0 i1
  go_upto_region 2 with fail
  rw [← hw2]
  clear hw2
  by_cases hE0 : vE = 0
  · subst hE0
    have HOK := hide_ (okS_of HE.out)
    go_wp2_with fail
    go_loopw [5, 6] (fun x5 x6 wr => ∃ (v : Value) (i : Nat), v = x5 ∧ i ≤ T.length ∧ x6 = .int .i64 (i : Int) ∧ Hid (XOwn wr w0.heap.size v (extL (T.take i))) ∧ Hid (Below w0.heap.size w0 wr)) (fun _ x6 _ => T.length - (intOf x6).toNat)
    case atStart => exact ⟨_, 0, rfl, Nat.zero_le _, rfl, hide_ (XOwn.nil _ _), HB2⟩
    case round =>
      obtain ⟨v, i, rfl, hi, rfl, HO, HB⟩ := hrel
      generalize wr = wq at *
      clear j0 HB2
      have i0 := (K1.out.later HB.out).cell 0
      simp at i0
      by_cases hlt : i < T.length
      · have hlt' : (i : Int) < T.length := by omega
        obtain ⟨b, o, rfl, hb, hc⟩ := (hT.out.later (below_to HB0.out HB.out)).open (by omega)
        have hx : T[i]? = some (T[i]'hlt) := List.getElem?_eq_getElem hlt
        obtain ⟨va, vc, hcx, hvc, -, hP⟩ := hc i _ hx
        have hok1 := HOK.out.ty i hlt
        rw [show T.getD i ty0 = T[i]'hlt by simp [List.getD, hlt]] at hok1
        have HS : Hid (extL (T.take (i + 1)) = extL (T.take i) ++ [ext1 (extL (T.take i)) (T[i]'hlt)]) := hide_ (by rw [List.take_succ_eq_append_getElem hlt, extL_snoc])
        have hXl : (extL (T.take i)).length = i := by rw [extL_len]; simp; omega
        have hbd := extL_bd2 HOK.out i hi
        generalize T[i]'hlt = t at *
        obtain ⟨k, n, el, ps⟩ := t
        simp only at hvc hP
        have i1 := hcx 0 (by decide); have i2 := hcx 1 (by decide); have i3 := hcx 2 (by decide); have i4 := hcx 3 (by decide)
        simp [tyc] at i1 i2 i3 i4
        obtain ⟨ax, cx, hv, -, -, hXr⟩ := HO.out.row
        have HCe := hide_ (one_any k n el ps va vc (extL (T.take i)) ax cx wq (by omega) (hide_ hbd) (hide_ (by rw [hXl]; exact hok1)) (hide_ hP) (hide_ hXr))
        generalize extL (T.take i) = X at *
        subst hv
        generalize ext1 X ⟨k, n, el, ps⟩ = y at *
        have hXle : X.length ≤ 4000000000000 := by omega
        have HXL := hide_ hXl
        clear hc hx hcx hP hok1 hb hXr hbd hXl
        go_wp2_with fail
        refine HCe.out.mono ?_; rintro e w4 ⟨rfl, hB4⟩
        have HO4 := hide_ (HO.out.later hB4)
        have HB4 := hide_ (below_to HB.out hB4)
        obtain ⟨v', w5, hrun, hO5, hB5⟩ := HO4.out.push y hXle HB4.out.size
        rw [← HS.out] at hO5
        have HRun := hide_ hrun
        have HO5 := hide_ hO5
        have HB5 := hide_ (HB4.out.trans hB5)
        simp only [exv]
        clear hB4 hrun hO5 hB5 HO4 HB4 HCe i1 i2 i3 i4
        go_wp2_with (first | (at_builtin; refine wpList_append_run rfl (.tmp 21) (.tmp 29) 44 44 rfl rfl rfl HRun.out ?_; clear HRun))
        go_roundw
        case rel => exact ⟨_, i + 1, rfl, by omega, by go_num, HO5, HB5⟩
        case measure => simp [intOf]; omega
      · have hlt' : ¬ (i : Int) < T.length := by omega
        have HV : Hid (XOwn wq w.heap.size v (extL T)) := hide_ (by have h := HO.out; rw [List.take_of_length_le (by omega)] at h; exact own_base h (by omega))
        go_wp2
        go_ret2
        exact .inr ⟨HOK.out, v, rfl, HV.out, below_to HB0.out HB.out⟩
  · have hE1 : (vE != 0) = true := by simpa using hE0
    have HV : Hid ((chk T R).1 ≠ 0) := hide_ (by rw [HE.out]; exact hE0)
    have HBf := hide_ (below_to HB0.out HB2.out)
    go_wp2_with fail
    go_region
    all_goals
      have HBd := hide_ (HBf.out.drew)
      go_wp2
      go_ret2
      exact .inl ⟨HV.out, by rw [HE.out]; rfl, HBd.out⟩
end Go.Proofs.Ytncndgfaalojpaa
/- The document's Of. -/
namespace Go.Proofs.Ytncndgfaalojpaa
open Go.RowKit
set_option linter.unusedVariables false

/-- The memory of one round: the type's box at q, the layout under way at q + 1. -/
structure LyR (w0 w : World) (q : Nat) (TC : List Value) (z : Int) (v : Value) (l : List Sl) : Prop where
  ty : Blk w q 43 TC
  out : Blk w (q + 1) 70 [.int .i64 z, v]
  own : SOwn w q v l
  below : Below q w0 w
theorem LyR.later {w0 w w' : World} {q : Nat} {TC : List Value} {z : Int} {v : Value} {l : List Sl} (h : LyR w0 w q TC z v l) (hB : Below w.heap.size w w') : LyR w0 w' q TC z v l :=
  ⟨h.ty.later hB, h.out.later hB, h.own.later hB, h.below.trans (hB.mono (Nat.le_of_lt h.ty.lt))⟩
theorem LyR.push {w0 w : World} {q : Nat} {TC : List Value} {z : Int} {v : Value} {l : List Sl} (h : LyR w0 w q TC z v l) (x : Sl) (hl : l.length ≤ 1000000) :
    ∃ g cap w', (Builtin.append_ #[68, 68] 68 #[v, .slice (some ⟨w.heap.size, 0, none⟩) 1 1]).run Try.prog (w.alloc (.cells #[.int .i64 x.at_, .bool x.v, .int .i64 x.sz] 77)) = .ok (.slice (some ⟨g, 0, none⟩) (l.length + 1) cap) w' ∧
      Blk w' (q + 1) 70 [.int .i64 z, v] ∧ LyR w0 (w'.setCell ⟨q + 1, 1, none⟩ (.slice (some ⟨g, 0, none⟩) (l.length + 1) cap)) q TC z (.slice (some ⟨g, 0, none⟩) (l.length + 1) cap) (l ++ [x]) ∧ Upd (fun k => v.ownBlock = some k) w w' ∧ Below q w w' := by
  have hq : q ≤ w.heap.size := Nat.le_of_lt h.ty.lt
  obtain ⟨g, cap, w', h1, h2, h3, h4⟩ := h.own.push x hl hq
  have hb := h3.below q hq (fun k hk => (h.own.lies hk).1)
  have ho := h.out.upd h3 (h.own.ne h.out (by decide))
  have ht := h.ty.upd h3 (h.own.ne h.ty (by decide))
  refine ⟨g, cap, w', h1, ho, ⟨?_, ?_, ?_, ?_⟩, h3, hb⟩
  · exact ht.other _ _ (by show q ≠ q + 1; omega)
  · have h := ho.set 1 (.slice (some ⟨g, 0, none⟩) (l.length + 1) cap)
    simpa using h
  · refine h2.upd ((Upd.refl (fun k => k = q + 1) w').set _ _ (.inl rfl)) (fun k hk e => ?_)
    exact h2.ne ho (by decide) (e ▸ hk)
  · exact below_set (h.below.trans hb) _ _ _ (by omega)
theorem LyR.step {w0 w : World} {q : Nat} {TC : List Value} {z : Int} {v : Value} {l : List Sl} (h : LyR w0 w q TC z v l) (x : Sl) (hl : l.length ≤ 1000000) {b : Nat} (hg : Blk w b 77 (slc x)) (hgv : ¬ v.ownBlock = some b) :
    ∃ g cap w', (Builtin.append_ #[68, 68] 68 #[v, .slice (some ⟨w.heap.size, 0, none⟩) 1 1]).run Try.prog (w.alloc (.cells #[.int .i64 x.at_, .bool x.v, .int .i64 x.sz] 77)) = .ok (.slice (some ⟨g, 0, none⟩) (l.length + 1) cap) w' ∧
      Blk w' (q + 1) 70 [.int .i64 z, v] ∧ LyR w0 (w'.setCell ⟨q + 1, 1, none⟩ (.slice (some ⟨g, 0, none⟩) (l.length + 1) cap)) q TC z (.slice (some ⟨g, 0, none⟩) (l.length + 1) cap) (l ++ [x]) ∧ Blk (w'.setCell ⟨q + 1, 1, none⟩ (.slice (some ⟨g, 0, none⟩) (l.length + 1) cap)) b 77 (slc x) := by
  obtain ⟨g, cap, w', h1, h2, h3, h4, h5⟩ := h.push x hl
  refine ⟨g, cap, w', h1, h2, h3, (hg.upd h4 hgv).other _ _ (fun e => ?_)⟩
  exact absurd (blk_type h.out (e ▸ hg)) (by decide)
theorem LyR.size {w0 w : World} {q : Nat} {TC : List Value} {z : Int} {v : Value} {l : List Sl} (h : LyR w0 w q TC z v l) (y : Int) : LyR w0 (w.setCell ⟨q + 1, 0, none⟩ (.int .i64 y)) q TC y v l := by
  refine ⟨h.ty.other _ _ (by show q ≠ q + 1; omega), ?_, ?_, below_set h.below _ _ _ (by omega)⟩
  · have := h.out.set 0 (.int .i64 y)
    simpa using this
  · refine h.own.upd ((Upd.refl (fun k => k = q + 1) w).set _ _ (.inl rfl)) (fun k hk e => ?_)
    exact h.own.ne h.out (by decide) (e ▸ hk)
theorem lyr_start (w : World) (TC : Array Value) {w1 w2 : World} (h1 : w1 = w.alloc (.cells TC 43)) (h2 : w2 = w1.alloc (.cells #[.int .i64 0, .slice none 0 0] 70)) :
    LyR w w2 w.heap.size TC.toList 0 (.slice none 0 0) [] := by
  have b1 : Below w.heap.size w w1 := by rw [h1]; exact below1 _ _
  have b2 : Below w1.heap.size w1 w2 := by rw [h2]; exact below1 _ _
  have s1 : w1.heap.size = w.heap.size + 1 := by rw [h1]; simp
  have k1 : Blk w1 w.heap.size 43 TC.toList := by rw [h1]; exact Blk.newA w _ _
  have k2 : Blk w2 w1.heap.size 70 [.int .i64 0, .slice none 0 0] := by rw [h2]; exact Blk.newA w1 _ _
  rw [s1] at k2
  exact ⟨k1.later b2, k2, SOwn.nil _ _, below_to b1 b2⟩
set_option maxRecDepth 100000 in
set_option maxHeartbeats 16000000 in
theorem ofD_any (a : Option Addr) (c : Nat) (T : List Ty) (ar : Option Addr) (cr : Nat) (R : List Rt) (w : World) (hn : T.length ≤ 3000000000000) (hm : R.length ≤ 10000000000000) (hL : Hid (LensT T)) (hT : Hid (TRow w a T)) (hR : Hid (RRow w ar R)) :
    Calls Try.prog 18 #[.agg #[.slice a T.length c, .slice ar R.length cr]] w fun e w' => LOfTo T R w e w' := by
  have hB := below1 w (.cells #[.slice a T.length c, .slice ar R.length cr] 25)
  have k1 := Blk.newA w #[.slice a T.length c, .slice ar R.length cr] 25
  obtain ⟨w0, hw0⟩ : ∃ wx, wx = w.alloc (.cells #[.slice a T.length c, .slice ar R.length cr] 25) := ⟨_, rfl⟩
  rw [← hw0] at hB k1
  have HB0 := hide_ hB
  have K1 := hide_ k1
  have hs1 : w.heap.size < w0.heap.size := k1.lt
  have i0 := k1.cell 0; have i1 := k1.cell 1
  simp at i0 i1
  have HCk := hide_ (checkR_any a c T ar cr R w0 hn hm hL (hide_ (hT.out.later hB)) (hide_ (hR.out.later hB)))
  obtain ⟨vE, hE⟩ : ∃ vE, (chk T R).1 = vE := ⟨_, rfl⟩
  obtain ⟨vA, hA⟩ : ∃ vA, (chk T R).2 = vA := ⟨_, rfl⟩
  rw [hE, hA] at HCk
  have HE := hide_ hE
  clear hB k1 hE hA
  go_enter Try.func18, Try.ntmps18
  go_upto_region 1 with fail
  rw [← hw0]
  clear hw0
  go_wp2_with fail
  refine HCk.out.mono ?_; rintro e w1 ⟨rfl, hB1⟩
  have kf := Blk.newA w1 #[.int .i64 vE, .int .i64 vA] 60
  have hB2 := below1 w1 (.cells #[.int .i64 vE, .int .i64 vA] 60)
  obtain ⟨w2, hw2⟩ : ∃ wx, wx = w1.alloc (.cells #[.int .i64 vE, .int .i64 vA] 60) := ⟨_, rfl⟩
  rw [← hw2] at kf hB2
  have HB2 := hide_ (below_to hB1 hB2)
  have j0 := kf.cell 0
  simp at j0
  have K2 := hide_ (K1.out.later HB2.out)
  clear hB1 hB2 kf HCk i0 i1
  go_upto_region 2 with fail
  rw [← hw2]
  clear hw2
  by_cases hE0 : vE = 0
  · have hE1 : (vE != 0) = false := by simp [hE0]
    have HOK := hide_ (okS_of (by rw [HE.out]; exact hE0))
    have l0 := K2.out.cell 0; have l1 := K2.out.cell 1
    simp at l0 l1
    have HCo := hide_ (ofR_any a c T ar cr R w2 hn hm hL (hide_ (hT.out.later (below_to HB0.out HB2.out))) (hide_ (hR.out.later (below_to HB0.out HB2.out))))
    clear hE0
    go_wp2_with fail
    refine HCo.out.mono ?_; rintro e w3 hOf
    rcases hOf with ⟨hne, -, -⟩ | ⟨-, vx, rfl, hXo, hB3⟩
    · exact absurd (by rw [HOK.out.chk]) hne
    have HB3 := hide_ (below_to HB2.out hB3)
    have hXl := extL_len T
    have hbd := extL_ok HOK.out T.length (Nat.le_refl _)
    rw [List.take_length] at hbd
    have HBd : Hid (∀ x ∈ extL T, XOk x) := hide_ (fun x hx => (hbd x hx).1)
    obtain ⟨ax, cx, hvx, -, -, hXr⟩ := hXo.row
    subst hvx
    have HXr := hide_ hXr
    have K3 := hide_ (K2.out.later hB3)
    have HXL := hide_ hXl
    obtain ⟨X, hX⟩ : ∃ X, extL T = X := ⟨_, rfl⟩
    rw [hX] at HXL HBd HXr
    have HXe := hide_ hX
    have hz3 : w0.heap.size ≤ w3.heap.size := HB3.out.size
    have hxlen : X.length = T.length := HXL.out
    have HT3 := hide_ (hT.out.later (below_to HB0.out HB3.out))
    have m0 := K3.out.cell 0
    simp at m0
    clear hX hXl hbd hXo hXr hB3 HCo l0 l1 j0 K2
    rw [HXe.out]
    rw [hxlen]
    have hXpos : ∀ i, i < T.length → 0 < X.length := fun i h => by omega
    have HXlen := hide_ hxlen
    clear hxlen
    go_wp2_with fail
    go_loopw [7, 8] (fun x7 x8 wr => ∃ (v : Value) (i : Nat) (P : List (Ly × Value)), v = x7 ∧ i ≤ T.length ∧ x8 = .int .i64 (i : Int) ∧ Hid (P.map (·.1) = (T.take i).map (layP X)) ∧ Hid (LOwn wr w3.heap.size v P) ∧ Hid (Below w3.heap.size w3 wr)) (fun _ x8 _ => T.length - (intOf x8).toNat)
    case atStart => exact ⟨_, 0, [], rfl, Nat.zero_le _, rfl, hide_ rfl, hide_ (LOwn.nil _ _), hide_ (Below.refl _ _)⟩
    case round =>
      obtain ⟨v, i, P, rfl, hi, rfl, HM, HO, HB⟩ := hrel
      generalize wr = wq at *
      clear m0
      have mq := (K3.out.later HB.out).cell 0
      simp at mq
      by_cases hlt : i < T.length
      · have hlt' : (i : Int) < T.length := by omega
        obtain ⟨b, o, rfl, hb, hc⟩ := (HT3.out.later HB.out).open (by omega)
        have hx : T[i]? = some (T[i]'hlt) := List.getElem?_eq_getElem hlt
        obtain ⟨va, vc, hcx, hvc, -, hP⟩ := hc i _ hx
        have hok1 := HOK.out.ty i hlt
        rw [show T.getD i ty0 = T[i]'hlt by simp [List.getD, hlt]] at hok1
        have HS0 := hide_ (fun u => take_map_succ hlt HM.out u)
        have hpl := map_len hi HM.out
        have HXq := hide_ (HXr.out.later HB.out)
        generalize T[i]'hlt = t at *
        obtain ⟨k, n, el, ps⟩ := t
        simp only at hvc hP
        have i0 := hcx 0 (by decide); have i1 := hcx 1 (by decide); have i2 := hcx 2 (by decide); have i3 := hcx 3 (by decide)
        simp [tyc] at i0 i1 i2 i3
        obtain ⟨wa, hwa⟩ : ∃ wx, wx = wq.alloc (.cells #[.int .i64 k, .int .i64 n, .int .i64 el, .slice va ps.length vc] 43) := ⟨_, rfl⟩
        obtain ⟨wx, hwx⟩ : ∃ wx, wx = wa.alloc (.cells #[.int .i64 0, .slice none 0 0] 70) := ⟨_, rfl⟩
        have HS := hide_ (lyr_start wq #[.int .i64 k, .int .i64 n, .int .i64 el, .slice va ps.length vc] hwa hwx)
        obtain ⟨q, hq⟩ : ∃ q, wq.heap.size = q := ⟨_, rfl⟩
        rw [hq] at HS
        have HQ := hide_ hq
        have HOK1 := hide_ hok1
        have HPr := hide_ hP
        have hPle : P.length ≤ 4000000000000 := by omega
        have HPL := hide_ hpl
        obtain ⟨y, hy⟩ : ∃ y, layP X ⟨k, n, el, ps⟩ = y := ⟨_, rfl⟩
        rw [hy] at HS0
        have HYd := hide_ hy
        obtain ⟨av, cv, hav, -, -⟩ := HO.out.slice
        subst hav
        clear hc hx hcx hP hok1 hb hpl hy
        go_upto_region 11 with fail
        rw [← hwa, ← hwx]
        clear hwa hwx i0 i1 i2 i3 hq mq
        have t0 := HS.out.ty.cell 0; have t1 := HS.out.ty.cell 1; have t2 := HS.out.ty.cell 2; have t3 := HS.out.ty.cell 3
        have u0 := HS.out.out.cell 0; have u1 := HS.out.out.cell 1
        simp at t0 t1 t2 t3 u0 u1
        by_cases h8 : k = 8
        · subst h8
          have HYe0 : Hid (y = rowP X ps) := hide_ (by rw [← HYd.out]; simp [layP])
          have hps := tyOk_len HOK1.out
          simp only at hps
          obtain ⟨TC, hTC⟩ : ∃ TC, TC = [Value.int .i64 8, Value.int .i64 n, Value.int .i64 el, Value.slice va ps.length vc] := ⟨_, rfl⟩
          have HT3c : Hid (TC[3]? = some (.slice va ps.length vc)) := hide_ (by rw [hTC]; rfl)
          have HSx : Hid (LyR wq wx q TC 0 (.slice none 0 0) []) := hide_ (by rw [hTC]; exact HS.out)
          clear HYd HS hTC
          go_wp2_with fail
          go_loopw [11] (fun x11 wr => ∃ (m : Nat) (z : Int) (v : Value) (l : List Sl), m ≤ ps.length ∧ x11 = .int .i64 (m : Int) ∧ Hid (rowP X (ps.take m) = ⟨z, l⟩) ∧ Hid (LyR wq wr q TC z v l)) (fun x11 _ => ps.length - (intOf x11).toNat)
          case atStart => exact ⟨0, 0, _, [], Nat.zero_le _, rfl, hide_ rfl, HSx⟩
          case round =>
            obtain ⟨m, z, v, l, hm, rfl, HR, HSr⟩ := hrel
            generalize wr = w4 at *
            clear HSx t0 t1 t2 t3 u0 u1
            have t3 := HSr.out.ty.cell 3
            rw [HT3c.out] at t3
            by_cases hltm : m < ps.length
            · have hltm' : (m : Int) < ps.length := by omega
              have hww : Below wq.heap.size wq w4 := by have := HSr.out.below; rw [← HQ.out] at this; exact this
              obtain ⟨bp, op, hva, hbp, hcp⟩ := (HPr.out.later hww).open (by omega)
              subst hva
              have hx : ps[m]? = some (ps[m]'hltm) := List.getElem?_eq_getElem hltm
              have hty := tyOk_part HOK1.out (j := m) (p := ps[m]'hltm) hx
              have hcx := hcp m _ hx
              have hsc := rowP_succ (X := X) hx
              rw [HR.out] at hsc
              have hrl := rowP_len X (ps.take m)
              have hrb := rowP_bd X (ps.take m)
              rw [HR.out] at hrl hrb
              simp only [List.length_take] at hrl hrb
              have hll : l.length ≤ 64 := by omega
              generalize ps[m]'hltm = p at *
              obtain ⟨pl, pg, py⟩ := p
              simp only at hty hsc
              have i2 := hcx 2 (by decide)
              simp [ptc] at i2
              obtain ⟨j, hj⟩ : ∃ j : Nat, py = (j : Int) := ⟨py.toNat, by omega⟩
              subst hj
              have hjX : j < X.length := by have := HXlen.out; omega
              have hjT' : (j : Int) < T.length := by omega
              have hxj := exAt_at hjX
              have HXo := hide_ (XOk.at HBd.out (j : Int))
              obtain ⟨bx, ox, hax, hbx, hcx2⟩ := HXq.out.open (by omega)
              subst hax
              obtain ⟨s, hs⟩ : ∃ s, slotP (exAt X (j : Int)) z = s := ⟨_, rfl⟩
              have HCs : Hid (∀ w', Calls Try.prog 34 #[.agg #[.bool (exAt X (j : Int)).f, .int .i64 (exAt X (j : Int)).l, .int .i64 (exAt X (j : Int)).m, .int .i64 (exAt X (j : Int)).d], .int .i64 z] w' fun e w2 => e = .returned (slv s) ∧ Below w'.heap.size w' w2) := hide_ (fun w' => by have h := slotR_any (exAt X (j : Int)) z w'; rwa [hs] at h)
              have hsb := slotP_bd HXo.out z
              have HXc : Hid (∀ w', Below wq.heap.size wq w' → ∀ m, m < 4 → w'.cell? ⟨bx, ox + j * 4 + m, none⟩ = (exc (exAt X (j : Int)))[m]?) := hide_ (fun w' hb m hm => (hb.cell (p := ⟨bx, ox + j * 4 + m, none⟩) hbx).trans (hcx2 j _ hxj m hm))
              simp only [addF] at hsc
              rw [hs] at hsb hsc
              generalize exAt X (j : Int) = xe at *
              obtain ⟨xf, xl, xm, xd⟩ := xe
              obtain ⟨sa, sv, ss⟩ := s
              simp only at hsc hsb HCs HXc
              obtain ⟨pz, hpz⟩ : ∃ pz, plus2 z ss = pz := ⟨_, rfl⟩
              have HCt : Hid (∀ w', Calls Try.prog 35 #[.int .i64 z, .int .i64 ss] w' fun e w2 => e = .returned (.int .i64 pz) ∧ w' = w2) := hide_ (fun w' => by have h := plusD_any z ss w' hrb.1 hrb.2 hsb.1 hsb.2; rwa [hpz] at h)
              rw [hpz] at hsc
              have HSc := hide_ hsc
              have Hlt : Hid (∀ k, v.ownBlock = some k → k < w4.heap.size) := hide_ (fun k hk => (HSr.out.own.lies hk).2)
              have HSS : Hid (∀ w', Below w4.heap.size w4 w' → w'.cell? ⟨q + 1, 0, none⟩ = some (.int .i64 z) ∧ w'.cell? ⟨q, 3, none⟩ = some (.slice (some ⟨bp, op, none⟩) ps.length vc) ∧ w'.cell? ⟨bp, op + m * 3 + 2, none⟩ = some (.int .i64 (j : Int)) ∧ w'.cell? ⟨bx, ox + j * 4, none⟩ = some (.bool xf) ∧ w'.cell? ⟨bx, ox + j * 4 + 1, none⟩ = some (.int .i64 xl) ∧ w'.cell? ⟨bx, ox + j * 4 + 2, none⟩ = some (.int .i64 xm) ∧ w'.cell? ⟨bx, ox + j * 4 + 3, none⟩ = some (.int .i64 xd)) := hide_ (fun w' hb => by
                have h := HSr.out.later hb
                have hw : Below wq.heap.size wq w' := by have := h.below; rw [← HQ.out] at this; exact this
                have c0 := HXc.out w' hw 0 (by decide); have c1 := HXc.out w' hw 1 (by decide); have c2 := HXc.out w' hw 2 (by decide); have c3 := HXc.out w' hw 3 (by decide)
                simp [exc] at c0 c1 c2 c3
                have u := h.out.cell 0
                have t := h.ty.cell 3
                rw [HT3c.out] at t
                simp at u
                exact ⟨u, t, (hb.cell (World.block_lt_of_cell? w4 _ i2)).trans i2, c0, c1, c2, c3⟩)
              obtain ⟨av2, cv2, hav2, -⟩ := HSr.out.own.row
              subst hav2
              clear hcp hx hcx hsc hrl hxj hcx2 hs hpz hww HXc hty i2 hjX
              go_upto_region 16 with fail
              refine wp_region_last 13 (fun w' => w'.cell? ⟨q + 1, 0, none⟩ = some (.int .i64 z) ∧ w'.cell? ⟨q, 3, none⟩ = some (.slice (some ⟨bp, op, none⟩) ps.length vc) ∧ w'.cell? ⟨bp, op + m * 3 + 2, none⟩ = some (.int .i64 (j : Int)) ∧ w'.cell? ⟨bx, ox + j * 4, none⟩ = some (.bool xf) ∧ w'.cell? ⟨bx, ox + j * 4 + 1, none⟩ = some (.int .i64 xl) ∧ w'.cell? ⟨bx, ox + j * 4 + 2, none⟩ = some (.int .i64 xm) ∧ w'.cell? ⟨bx, ox + j * 4 + 3, none⟩ = some (.int .i64 xd)) (by kernel_rfl) (HSS.out _ ((Below.refl w4.heap.size w4).drew)) (fun hHeld => ?_)
              refine wpAnyF_take [13] (by kernel_rfl) (i := 0) (v := ?vs1) rfl (by kernel_rfl) (by kernel_rfl) (by kernel_rfl) (fun _ _ _ h => h) (Or.inl ⟨by kernel_rfl, ?hys1⟩) hHeld ?rests1
              case hys1 => intro w' hSw; (try dsimp only at hSw); go_simp; try with_reducible rfl
              simp only [Act.put]
              refine wpAnyF_take [13] (by kernel_rfl) (i := 1) (v := ?vs2) rfl (by kernel_rfl) (by kernel_rfl) (by kernel_rfl) (fun _ _ _ h => h) (Or.inl ⟨by kernel_rfl, ?hys2⟩) hHeld ?rests2
              case hys2 => intro w' hSw; (try dsimp only at hSw); go_simp; try with_reducible rfl
              simp only [Act.put]
              refine wpAnyF_take [13] (by kernel_rfl) (i := 2) (v := ?vs3) rfl (by kernel_rfl) (by kernel_rfl) (by kernel_rfl) (fun _ _ _ h => h) (Or.inl ⟨by kernel_rfl, ?hys3⟩) hHeld ?rests3
              case hys3 => intro w' hSw; (try dsimp only at hSw); go_simp; try with_reducible rfl
              simp only [Act.put]
              refine wpAnyF_take [13] (by kernel_rfl) (i := 3) (v := ?vs4) rfl (by kernel_rfl) (by kernel_rfl) (by kernel_rfl) (fun _ _ _ h => h) (Or.inl ⟨by kernel_rfl, ?hys4⟩) hHeld ?rests4
              case hys4 => intro w' hSw; (try dsimp only at hSw); go_simp; try with_reducible rfl
              simp only [Act.put]
              refine wpAnyF_take [13] (by kernel_rfl) (i := 4) (v := ?vs5) rfl (by kernel_rfl) (by kernel_rfl) (by kernel_rfl) (fun _ _ _ h => h) (Or.inl ⟨by kernel_rfl, ?hys5⟩) hHeld ?rests5
              case hys5 => intro w' hSw; (try dsimp only at hSw); go_simp; try with_reducible rfl
              simp only [Act.put]
              refine wpAnyF_take [13] (by kernel_rfl) (i := 5) (v := ?vs6) rfl (by kernel_rfl) (by kernel_rfl) (by kernel_rfl) (fun _ _ _ h => h) (Or.inl ⟨by kernel_rfl, ?hys6⟩) hHeld ?rests6
              case hys6 => intro w' hSw; (try dsimp only at hSw); go_simp; try with_reducible rfl
              simp only [Act.put]
              refine wpAnyF_take [13] (by kernel_rfl) (i := 6) (v := ?vs7) rfl (by kernel_rfl) (by kernel_rfl) (by kernel_rfl) (fun _ _ _ h => h) (Or.inl ⟨by kernel_rfl, ?hys7⟩) hHeld ?rests7
              case hys7 => intro w' hSw; (try dsimp only at hSw); go_simp; try with_reducible rfl
              simp only [Act.put]
              refine wpAnyF_take [13] (by kernel_rfl) (i := 7) (v := ?vs8) rfl (by kernel_rfl) (by kernel_rfl) (by kernel_rfl) (fun _ _ _ h => h) (Or.inl ⟨by kernel_rfl, ?hys8⟩) hHeld ?rests8
              case hys8 => intro w' hSw; (try dsimp only at hSw); go_simp; try with_reducible rfl
              simp only [Act.put]
              refine wpAnyF_take [13] (by kernel_rfl) (i := 8) (v := ?vs9) rfl (by kernel_rfl) (by kernel_rfl) (by kernel_rfl) (fun _ _ _ h => h) (Or.inl ⟨by kernel_rfl, ?hys9⟩) hHeld ?rests9
              case hys9 => intro w' hSw; (try dsimp only at hSw); go_simp; try with_reducible rfl
              simp only [Act.put]
              refine wpAnyF_take [13] (by kernel_rfl) (i := 9) (v := ?vs10) rfl (by kernel_rfl) (by kernel_rfl) (by kernel_rfl) (fun _ _ _ h => h) (Or.inl ⟨by kernel_rfl, ?hys10⟩) hHeld ?rests10
              case hys10 => intro w' hSw; (try dsimp only at hSw); go_simp; try with_reducible rfl
              simp only [Act.put]
              refine wpAnyF_take [13] (by kernel_rfl) (i := 10) (v := ?vs11) rfl (by kernel_rfl) (by kernel_rfl) (by kernel_rfl) (fun _ _ _ h => h) (Or.inl ⟨by kernel_rfl, ?hys11⟩) hHeld ?rests11
              case hys11 => intro w' hSw; (try dsimp only at hSw); go_simp; try with_reducible rfl
              simp only [Act.put]
              refine wpAnyF_ready (rs := [11, 12]) (by kernel_rfl) (by simp) ?_
              refine AllReadyF.cons rfl (fun K hK => ?_) ?_
              · go_simp
                refine (HCs.out _).mono ?_
                rintro e w5 ⟨rfl, hB5⟩
                dsimp only
                have b45 : Below w4.heap.size w4 w5 := below_to ((Below.refl w4.heap.size w4).drew) hB5
                have HB45 := hide_ b45
                have hg5 : w4.heap.size ≤ w5.heap.size := b45.size
                clear hB5 b45
                refine hK.out _ _ (HSS.out _ HB45.out) (fun hHeld => ?_)
                clear hK K
                refine wpAnyF_ready (rs := [12]) (by kernel_rfl) (by simp) ?_
                refine AllReadyF.cons rfl (fun K hK => ?_) AllReadyF.nil
                go_simp
                have k6 := Blk.newA w5 #[.int .i64 sa, .bool sv, .int .i64 ss] 77
                have b56 := below1 w5 (.cells #[.int .i64 0, .bool false, .int .i64 0] 77)
                have b46 := below_to HB45.out (below1 w5 (.cells #[.int .i64 sa, .bool sv, .int .i64 ss] 77))
                have HB56 := hide_ (below_to HB45.out b56)
                obtain ⟨w6, hw6⟩ : ∃ wx, wx = w5.alloc (.cells #[.int .i64 sa, .bool sv, .int .i64 ss] 77) := ⟨_, rfl⟩
                rw [← hw6] at k6 b46
                obtain ⟨gS, hgS⟩ : ∃ g, w5.heap.size = g := ⟨_, rfl⟩
                have hgl : w4.heap.size ≤ gS := by rw [← hgS]; exact hg5
                rw [hgS] at k6
                have K6 := hide_ k6
                have HB6 := hide_ b46
                have Hgs := hide_ hgS
                clear k6 b56 b46 hgS
                refine hK.out _ _ (HSS.out _ HB56.out) (fun hHeld => ?_)
                clear hK K
                refine wpAnyF_ready (rs := [13]) (by kernel_rfl) (by simp) ?_
                refine AllReadyF.last rfl (fun K hK => ?_)
                simp only [slv]
                go_simp
                refine hK.out _ _ ?_
                clear hK K
                refine wpAnyF_done (by kernel_rfl) ?_ _
                rw [← hw6]
                have hgS := Hgs.out
                try rw [hgS]
                clear hw6 hgS Hgs HSS hHeld HCs
                have HS6 := hide_ (HSr.out.later HB6.out)
                obtain ⟨g, cap, w7, hrun, hb7, hS7, hk7⟩ := HS6.out.step ⟨sa, sv, ss⟩ (by omega) K6.out (fun e => by have := Hlt.out _ e; omega)
                have HRun := hide_ hrun
                have z1 := HS6.out.out.cell 1
                have s0 := K6.out.cell 0; have s1 := K6.out.cell 1; have s2 := K6.out.cell 2
                have v1 := hb7.cell 1
                have vf := fun i => hb7.frozen i
                simp at z1 s0 s1 s2 v1
                obtain ⟨w8, hw8⟩ : ∃ wx, wx = w7.setCell ⟨q + 1, 1, none⟩ (.slice (some ⟨g, 0, none⟩) (l.length + 1) cap) := ⟨_, rfl⟩
                rw [← hw8] at hS7 hk7
                have HS8 := hide_ hS7
                have HK8 := hide_ hk7
                have a2 := hk7.cell 2
                have b0 := hS7.out.cell 0
                have bf := fun i => HS8.out.out.frozen i
                simp [slc] at a2 b0
                have HS9 := hide_ (HS8.out.size pz)
                clear hrun hb7 hS7 hk7
                go_upto_region 18 with (first | (at_builtin; refine wpList_append_run rfl (.tmp 61) (.tmp 63) 68 68 rfl rfl rfl HRun.out ?_; clear HRun) | fail)
                rw [← hw8]
                clear hw8
                go_wp2_with fail
                refine (HCt.out _).mono ?_
                rintro e w9 ⟨rfl, rfl⟩
                go_wp2_with fail
                go_roundw
                case rel => exact ⟨m + 1, pz, _, l ++ [⟨sa, sv, ss⟩], by omega, by go_num, HSc, HS9⟩
                case measure => simp [intOf]; omega
              refine AllReadyF.cons rfl (fun K hK => ?_) AllReadyF.nil
              go_simp
              refine hK.out _ _ (HSS.out _ (below_to ((Below.refl w4.heap.size w4).drew) (below1 w4.drew _))) (fun hHeld => ?_)
              clear hK K
              refine wpAnyF_ready (rs := [11]) (by kernel_rfl) (by simp) ?_
              refine AllReadyF.cons rfl (fun K hK => ?_) AllReadyF.nil
              go_simp
              refine (HCs.out _).mono ?_
              rintro e w5 ⟨rfl, hB5⟩
              dsimp only
              have b45 : Below w4.heap.size w4 w5 := below_to (below_to ((Below.refl w4.heap.size w4).drew) (below1 w4.drew _)) hB5
              have k5 : Blk w5 w4.heap.size 77 [.int .i64 0, .bool false, .int .i64 0] := (Blk.newA w4.drew #[.int .i64 0, .bool false, .int .i64 0] 77).later hB5
              have HB45 := hide_ b45
              have f5 := fun i => k5.frozen i
              have c50 := k5.cell 0; have c51 := k5.cell 1; have c52 := k5.cell 2
              simp at c50 c51 c52
              obtain ⟨w6, hw6⟩ : ∃ wx, wx = ((w5.setCell ⟨w4.heap.size, 0, none⟩ (.int .i64 sa)).setCell ⟨w4.heap.size, 1, none⟩ (.bool sv)).setCell ⟨w4.heap.size, 2, none⟩ (.int .i64 ss) := ⟨_, rfl⟩
              have k6 := wr3 k5 (.int .i64 sa) (.bool sv) (.int .i64 ss)
              have b46 := below_wr3 b45 w4.heap.size (Nat.le_refl _) (.int .i64 sa) (.bool sv) (.int .i64 ss)
              rw [← hw6] at k6 b46
              obtain ⟨gS, hgS⟩ : ∃ g, w4.heap.size = g := ⟨_, rfl⟩
              have hgl : w4.heap.size ≤ gS := Nat.le_of_eq hgS
              rw [hgS] at k6
              have K6 := hide_ k6
              have HB6 := hide_ b46
              have Hgs := hide_ hgS
              clear b45 hB5 k5 k6 b46 hgS
              refine hK.out _ _ (HSS.out _ HB45.out) (fun hHeld => ?_)
              clear hK K
              refine wpAnyF_ready (rs := [13]) (by kernel_rfl) (by simp) ?_
              refine AllReadyF.last rfl (fun K hK => ?_)
              simp only [slv]
              go_simp
              refine hK.out _ _ ?_
              clear hK K
              refine wpAnyF_done (by kernel_rfl) ?_ _
              rw [← hw6]
              have hgS := Hgs.out
              try rw [hgS]
              clear hw6 hgS Hgs HSS hHeld HCs
              have HS6 := hide_ (HSr.out.later HB6.out)
              obtain ⟨g, cap, w7, hrun, hb7, hS7, hk7⟩ := HS6.out.step ⟨sa, sv, ss⟩ (by omega) K6.out (fun e => by have := Hlt.out _ e; omega)
              have HRun := hide_ hrun
              have z1 := HS6.out.out.cell 1
              have s0 := K6.out.cell 0; have s1 := K6.out.cell 1; have s2 := K6.out.cell 2
              have v1 := hb7.cell 1
              have vf := fun i => hb7.frozen i
              simp at z1 s0 s1 s2 v1
              obtain ⟨w8, hw8⟩ : ∃ wx, wx = w7.setCell ⟨q + 1, 1, none⟩ (.slice (some ⟨g, 0, none⟩) (l.length + 1) cap) := ⟨_, rfl⟩
              rw [← hw8] at hS7 hk7
              have HS8 := hide_ hS7
              have HK8 := hide_ hk7
              have a2 := hk7.cell 2
              have b0 := hS7.out.cell 0
              have bf := fun i => HS8.out.out.frozen i
              simp [slc] at a2 b0
              have HS9 := hide_ (HS8.out.size pz)
              clear hrun hb7 hS7 hk7
              go_upto_region 18 with (first | (at_builtin; refine wpList_append_run rfl (.tmp 61) (.tmp 63) 68 68 rfl rfl rfl HRun.out ?_; clear HRun) | fail)
              rw [← hw8]
              clear hw8
              go_wp2_with fail
              refine (HCt.out _).mono ?_
              rintro e w9 ⟨rfl, rfl⟩
              go_wp2_with fail
              go_roundw
              case rel => exact ⟨m + 1, pz, _, l ++ [⟨sa, sv, ss⟩], by omega, by go_num, HSc, HS9⟩
              case measure => simp [intOf]; omega
            · obtain rfl : m = ps.length := by omega
              have HYe : Hid (y = ⟨z, l⟩) := hide_ (by have h := HR.out; rw [List.take_length] at h; rw [HYe0.out, h])
              obtain ⟨av2, cv2, hav2, -⟩ := HSr.out.own.row
              subst hav2
              have LS := HSr
              clear HSr HR HYe0
              have o0 := LS.out.out.cell 0; have o1 := LS.out.out.cell 1
              simp at o0 o1
              have hbz : Below wq.heap.size wq w4 := by have := LS.out.below; rw [← HQ.out] at this; exact this
              have HOz := hide_ (HO.out.later hbz)
              have HBz := hide_ (below_to HB.out hbz)
              have hqw : w3.heap.size ≤ q := by rw [← HQ.out]; exact HB.out.size
              obtain ⟨gn, cn, wn, hrun, hOn, hUn, -⟩ := HOz.out.push y (by rw [HYe.out]; exact own_base LS.out.own hqw) (fun p hp k hk hk2 => by
                have h1 := (HO.out.sl p hp).lies hk
                have h2 := LS.out.own.lies hk2
                have := HQ.out
                omega) hPle HBz.out.size
              have HOn := hide_ hOn
              have HBn := hide_ (HBz.out.trans (hUn.below _ HBz.out.size (fun k hk => (HOz.out.lies hk).1)))
              have HSn := hide_ (HS0.out (.slice av2 l.length cv2))
              rw [HYe.out] at hrun
              simp only at hrun
              have HRn := hide_ hrun
              clear hrun hOn hUn HOz HBz hbz
              go_wp2_with (first | (at_builtin; refine wpList_append_run rfl (.tmp 105) (.tmp 107) 48 48 rfl rfl rfl HRn.out ?_; clear HRn) | fail)
              go_roundw
              case rel => exact ⟨_, i + 1, _, rfl, by omega, by go_num, HSn, HOn, HBn⟩
              case measure => simp [intOf]; omega
        · by_cases h4 : k = 4
          · subst h4
            clear h8
            have hel := tyOk_elem HOK1.out (show hasE 4 = true by decide)
            simp only at hel
            obtain ⟨j, hj⟩ : ∃ j : Nat, el = (j : Int) := ⟨el.toNat, by omega⟩
            subst hj
            have hjX : j < X.length := by have := HXlen.out; omega
            have hjT' : (j : Int) < T.length := by omega
            have hxj := exAt_at hjX
            have HXo := hide_ (XOk.at HBd.out (j : Int))
            obtain ⟨bx, ox, hax, hbx, hcx⟩ := HXq.out.open (by omega)
            subst hax
            have HXc : Hid (∀ w', Below wq.heap.size wq w' → ∀ m, m < 4 → w'.cell? ⟨bx, ox + j * 4 + m, none⟩ = (exc (exAt X (j : Int)))[m]?) := hide_ (fun w' hb m hm => (hb.cell (p := ⟨bx, ox + j * 4 + m, none⟩) hbx).trans (hcx j _ hxj m hm))
            obtain ⟨s, hs⟩ : ∃ s, slotP (exAt X (j : Int)) 0 = s := ⟨_, rfl⟩
            have HCs : Hid (∀ w', Calls Try.prog 34 #[.agg #[.bool (exAt X (j : Int)).f, .int .i64 (exAt X (j : Int)).l, .int .i64 (exAt X (j : Int)).m, .int .i64 (exAt X (j : Int)).d], .int .i64 0] w' fun e w2 => e = .returned (slv s) ∧ Below w'.heap.size w' w2) := hide_ (fun w' => by have h := slotR_any (exAt X (j : Int)) 0 w'; rwa [hs] at h)
            have HY4 : Hid (y = ⟨times2 n s.sz, [s]⟩) := hide_ (by rw [← HYd.out, ← hs]; simp [layP])
            have HSb := hide_ (slotP_bd HXo.out 0)
            rw [hs] at HSb
            have hBx : Below wq.heap.size wq wx := by have := HS.out.below; rw [← HQ.out] at this; exact this
            have c0 := HXc.out wx hBx 0 (by decide); have c1 := HXc.out wx hBx 1 (by decide); have c2 := HXc.out wx hBx 2 (by decide); have c3 := HXc.out wx hBx 3 (by decide)
            simp [exc] at c0 c1 c2 c3
            clear hcx hxj hs hBx hjX
            generalize exAt X (j : Int) = xe at *
            obtain ⟨xf, xl, xm, xd⟩ := xe
            simp only at c0 c1 c2 c3 HCs HXc
            obtain ⟨sa, sv, ss⟩ := s
            have hn4 := nOk_n HOK1.out
            simp only at hn4
            have hn1 : 0 < n ∧ n ≤ 1048576 := by omega
            clear hn4
            obtain ⟨pz, hpz⟩ : ∃ pz, times2 n ss = pz := ⟨_, rfl⟩
            have HCt : Hid (∀ w', Calls Try.prog 36 #[.int .i64 n, .int .i64 ss] w' fun e w2 => e = .returned (.int .i64 pz) ∧ w' = w2) := hide_ (fun w' => by have h := timesD_any n ss w' hn1.1 hn1.2 HSb.out.1 HSb.out.2; rwa [hpz] at h)
            have HYe : Hid (y = ⟨pz, [⟨sa, sv, ss⟩]⟩) := hide_ (by rw [HY4.out]; simp only; rw [hpz])
            clear hpz HYd HY4
            go_wp2_with fail
            refine (HCs.out _).mono ?_
            rintro e w4 ⟨rfl, hB4⟩
            have hS4 := HS.out.later hB4
            have kS := Blk.newA w4 #[.int .i64 sa, .bool sv, .int .i64 ss] 77
            have hB5 := below1 w4 (.cells #[.int .i64 sa, .bool sv, .int .i64 ss] 77)
            obtain ⟨w5, hw5⟩ : ∃ wx, wx = w4.alloc (.cells #[.int .i64 sa, .bool sv, .int .i64 ss] 77) := ⟨_, rfl⟩
            rw [← hw5] at kS hB5
            have HS5 := hide_ (hS4.later hB5)
            obtain ⟨g, cap, w6, hrun, hb6, hS6, hk6⟩ := HS5.out.step ⟨sa, sv, ss⟩ (by decide) kS (by simp [Value.ownBlock])
            have HRun := hide_ hrun
            have HS6 := hide_ hS6
            have HK6 := hide_ hk6
            have z1 := HS5.out.out.cell 1
            have s0 := kS.cell 0; have s1 := kS.cell 1; have s2 := kS.cell 2
            have v1 := hb6.cell 1
            have vf := fun i => hb6.frozen i
            simp at z1 s0 s1 s2 v1
            simp only [slv]
            clear kS hB5 t0 t1 t2 t3 u0 u1 c0 c1 c2 c3 hrun hb6 hS6 hk6 hS4 hB4
            go_upto_region 21 with fail
            rw [← hw5]
            clear hw5
            obtain ⟨w7, hw7⟩ : ∃ wx, wx = w6.setCell ⟨q + 1, 1, none⟩ (.slice (some ⟨g, 0, none⟩) 1 cap) := ⟨_, rfl⟩
            have HS7 : Hid (LyR wq w7 q [.int .i64 4, .int .i64 n, .int .i64 (j : Int), .slice va ps.length vc] 0 (.slice (some ⟨g, 0, none⟩) 1 cap) [⟨sa, sv, ss⟩]) := hide_ (by rw [hw7]; exact HS6.out)
            have HK7 : Hid (Blk w7 w4.heap.size 77 [.int .i64 sa, .bool sv, .int .i64 ss]) := hide_ (by rw [hw7]; exact HK6.out)
            have a1 := HS7.out.ty.cell 1
            have a2 := HK7.out.cell 2
            have b0 := HS7.out.out.cell 0
            have bf := fun i => HS7.out.out.frozen i
            simp at a1 a2 b0
            clear HS6 HK6
            go_upto_region 22 with (first | (at_builtin; refine wpList_append_run rfl (.tmp 81) (.tmp 83) 68 68 rfl rfl rfl HRun.out ?_; clear HRun) | fail)
            rw [← hw7]
            clear hw7
            obtain ⟨w8, hw8⟩ : ∃ wx, wx = w7.setCell ⟨q + 1, 0, none⟩ (.int .i64 pz) := ⟨_, rfl⟩
            have LS : Hid (LyR wq w8 q [.int .i64 4, .int .i64 n, .int .i64 (j : Int), .slice va ps.length vc] pz (.slice (some ⟨g, 0, none⟩) 1 cap) [⟨sa, sv, ss⟩]) := hide_ (by rw [hw8]; exact HS7.out.size pz)
            go_wp2_with fail
            refine (HCt.out _).mono ?_
            rintro e w9 ⟨rfl, rfl⟩
            go_upto_region 25 with fail
            rw [← hw8]
            clear hw8 a1 a2 b0 bf z1 s0 s1 s2 v1 vf
            have o0 := LS.out.out.cell 0; have o1 := LS.out.out.cell 1
            simp at o0 o1
            have hbz : Below wq.heap.size wq w8 := by have := LS.out.below; rw [← HQ.out] at this; exact this
            have HOz := hide_ (HO.out.later hbz)
            have HBz := hide_ (below_to HB.out hbz)
            have hqw : w3.heap.size ≤ q := by rw [← HQ.out]; exact HB.out.size
            obtain ⟨gn, cn, wn, hrun, hOn, hUn, -⟩ := HOz.out.push y (by rw [HYe.out]; exact own_base LS.out.own hqw) (fun p hp k hk hk2 => by
              have h1 := (HO.out.sl p hp).lies hk
              have h2 := LS.out.own.lies hk2
              have := HQ.out
              omega) hPle HBz.out.size
            have HOn := hide_ hOn
            have HBn := hide_ (HBz.out.trans (hUn.below _ HBz.out.size (fun k hk => (HOz.out.lies hk).1)))
            have HSn := hide_ (HS0.out (.slice (some ⟨g, 0, none⟩) 1 cap))
            rw [HYe.out] at hrun
            simp only at hrun
            have HRn := hide_ hrun
            clear hrun hOn hUn HOz HBz hbz
            go_wp2_with (first | (at_builtin; refine wpList_append_run rfl (.tmp 105) (.tmp 107) 48 48 rfl rfl rfl HRn.out ?_; clear HRn) | fail)
            go_roundw
            case rel => exact ⟨_, i + 1, _, rfl, by omega, by go_num, HSn, HOn, HBn⟩
            case measure => simp [intOf]; omega
          · by_cases h5 : k = 5
            · subst h5
              clear h8 h4
              have hel := tyOk_elem HOK1.out (show hasE 5 = true by decide)
              simp only at hel
              obtain ⟨j, hj⟩ : ∃ j : Nat, el = (j : Int) := ⟨el.toNat, by omega⟩
              subst hj
              have hjX : j < X.length := by have := HXlen.out; omega
              have hjT' : (j : Int) < T.length := by omega
              have hxj := exAt_at hjX
              have HXo := hide_ (XOk.at HBd.out (j : Int))
              obtain ⟨bx, ox, hax, hbx, hcx⟩ := HXq.out.open (by omega)
              subst hax
              have HXc : Hid (∀ w', Below wq.heap.size wq w' → ∀ m, m < 4 → w'.cell? ⟨bx, ox + j * 4 + m, none⟩ = (exc (exAt X (j : Int)))[m]?) := hide_ (fun w' hb m hm => (hb.cell (p := ⟨bx, ox + j * 4 + m, none⟩) hbx).trans (hcx j _ hxj m hm))
              obtain ⟨s, hs⟩ : ∃ s, slotP (exAt X (j : Int)) 0 = s := ⟨_, rfl⟩
              have HCs : Hid (∀ w', Calls Try.prog 34 #[.agg #[.bool (exAt X (j : Int)).f, .int .i64 (exAt X (j : Int)).l, .int .i64 (exAt X (j : Int)).m, .int .i64 (exAt X (j : Int)).d], .int .i64 0] w' fun e w2 => e = .returned (slv s) ∧ Below w'.heap.size w' w2) := hide_ (fun w' => by have h := slotR_any (exAt X (j : Int)) 0 w'; rwa [hs] at h)
              have HYe : Hid (y = ⟨0, [s]⟩) := hide_ (by rw [← HYd.out, ← hs]; simp [layP])
              have HSb := hide_ (slotP_bd HXo.out 0)
              rw [hs] at HSb
              have hBx : Below wq.heap.size wq wx := by have := HS.out.below; rw [← HQ.out] at this; exact this
              have c0 := HXc.out wx hBx 0 (by decide); have c1 := HXc.out wx hBx 1 (by decide); have c2 := HXc.out wx hBx 2 (by decide); have c3 := HXc.out wx hBx 3 (by decide)
              simp [exc] at c0 c1 c2 c3
              clear hcx hxj hs hBx hjX
              generalize exAt X (j : Int) = xe at *
              obtain ⟨xf, xl, xm, xd⟩ := xe
              simp only at c0 c1 c2 c3 HCs HXc
              obtain ⟨sa, sv, ss⟩ := s
              clear HYd
              have HSS : Hid (∀ w', Below wx.heap.size wx w' → w'.cell? ⟨q + 1, 1, none⟩ = some (.slice none 0 0) ∧ w'.cell? ⟨q, 2, none⟩ = some (.int .i64 (j : Int)) ∧ w'.cell? ⟨bx, ox + j * 4, none⟩ = some (.bool xf) ∧ w'.cell? ⟨bx, ox + j * 4 + 1, none⟩ = some (.int .i64 xl) ∧ w'.cell? ⟨bx, ox + j * 4 + 2, none⟩ = some (.int .i64 xm) ∧ w'.cell? ⟨bx, ox + j * 4 + 3, none⟩ = some (.int .i64 xd)) := hide_ (fun w' hb => by
                have h := HS.out.later hb
                have hw : Below wq.heap.size wq w' := by have := h.below; rw [← HQ.out] at this; exact this
                have c0 := HXc.out w' hw 0 (by decide); have c1 := HXc.out w' hw 1 (by decide); have c2 := HXc.out w' hw 2 (by decide); have c3 := HXc.out w' hw 3 (by decide)
                simp [exc] at c0 c1 c2 c3
                have u := h.out.cell 1
                have t := h.ty.cell 2
                simp at u t
                exact ⟨u, t, c0, c1, c2, c3⟩)
              clear t1 t2 t3 u0 u1 c0 c1 c2 c3
              go_upto_region 24 with fail
              refine wp_region_last 11 (fun w' => w'.cell? ⟨q + 1, 1, none⟩ = some (.slice none 0 0) ∧ w'.cell? ⟨q, 2, none⟩ = some (.int .i64 (j : Int)) ∧ w'.cell? ⟨bx, ox + j * 4, none⟩ = some (.bool xf) ∧ w'.cell? ⟨bx, ox + j * 4 + 1, none⟩ = some (.int .i64 xl) ∧ w'.cell? ⟨bx, ox + j * 4 + 2, none⟩ = some (.int .i64 xm) ∧ w'.cell? ⟨bx, ox + j * 4 + 3, none⟩ = some (.int .i64 xd)) (by kernel_rfl) (HSS.out _ ((Below.refl wx.heap.size wx).drew)) (fun hHeld => ?_)
              refine wpAnyF_take [11] (by kernel_rfl) (i := 0) (v := ?vg1) rfl (by kernel_rfl) (by kernel_rfl) (by kernel_rfl) (fun _ _ _ h => h) (Or.inl ⟨by kernel_rfl, ?hyg1⟩) hHeld ?restg1
              case hyg1 => intro w' hSw; (try dsimp only at hSw); go_simp; try with_reducible rfl
              simp only [Act.put]
              refine wpAnyF_take [11] (by kernel_rfl) (i := 1) (v := ?vg2) rfl (by kernel_rfl) (by kernel_rfl) (by kernel_rfl) (fun _ _ _ h => h) (Or.inl ⟨by kernel_rfl, ?hyg2⟩) hHeld ?restg2
              case hyg2 => intro w' hSw; (try dsimp only at hSw); go_simp; try with_reducible rfl
              simp only [Act.put]
              refine wpAnyF_take [11] (by kernel_rfl) (i := 2) (v := ?vg3) rfl (by kernel_rfl) (by kernel_rfl) (by kernel_rfl) (fun _ _ _ h => h) (Or.inl ⟨by kernel_rfl, ?hyg3⟩) hHeld ?restg3
              case hyg3 => intro w' hSw; (try dsimp only at hSw); go_simp; try with_reducible rfl
              simp only [Act.put]
              refine wpAnyF_take [11] (by kernel_rfl) (i := 3) (v := ?vg4) rfl (by kernel_rfl) (by kernel_rfl) (by kernel_rfl) (fun _ _ _ h => h) (Or.inl ⟨by kernel_rfl, ?hyg4⟩) hHeld ?restg4
              case hyg4 => intro w' hSw; (try dsimp only at hSw); go_simp; try with_reducible rfl
              simp only [Act.put]
              refine wpAnyF_take [11] (by kernel_rfl) (i := 4) (v := ?vg5) rfl (by kernel_rfl) (by kernel_rfl) (by kernel_rfl) (fun _ _ _ h => h) (Or.inl ⟨by kernel_rfl, ?hyg5⟩) hHeld ?restg5
              case hyg5 => intro w' hSw; (try dsimp only at hSw); go_simp; try with_reducible rfl
              simp only [Act.put]
              refine wpAnyF_take [11] (by kernel_rfl) (i := 5) (v := ?vg6) rfl (by kernel_rfl) (by kernel_rfl) (by kernel_rfl) (fun _ _ _ h => h) (Or.inl ⟨by kernel_rfl, ?hyg6⟩) hHeld ?restg6
              case hyg6 => intro w' hSw; (try dsimp only at hSw); go_simp; try with_reducible rfl
              simp only [Act.put]
              refine wpAnyF_take [11] (by kernel_rfl) (i := 6) (v := ?vg7) rfl (by kernel_rfl) (by kernel_rfl) (by kernel_rfl) (fun _ _ _ h => h) (Or.inl ⟨by kernel_rfl, ?hyg7⟩) hHeld ?restg7
              case hyg7 => intro w' hSw; (try dsimp only at hSw); go_simp; try with_reducible rfl
              simp only [Act.put]
              refine wpAnyF_ready (rs := [7]) (by kernel_rfl) (by simp) ?_
              refine AllReadyF.cons rfl (fun K hK => ?_) AllReadyF.nil
              go_simp
              refine (HCs.out _).mono ?_
              rintro e w4 ⟨rfl, hB4⟩
              dsimp only
              have HB4 : Hid (Below wx.heap.size wx w4) := hide_ (below_to ((Below.refl wx.heap.size wx).drew) hB4)
              have HS4 := hide_ (HS.out.later HB4.out)
              obtain ⟨g, cap, w6, hrun, hb6, hS6, hU6, -⟩ := HS4.out.push ⟨sa, sv, ss⟩ (by decide)
              have HRun := hide_ hrun
              have LS0 := hide_ hS6
              have v1 := hb6.cell 1
              have vf := fun i => hb6.frozen i
              simp at v1
              have HB6 : Hid (Below wx.heap.size wx w6) := hide_ (HB4.out.trans (hU6.below _ HB4.out.size (fun k hk => by simp [Value.ownBlock] at hk)))
              clear hrun hb6 hS6 hB4
              refine hK.out _ _ (HSS.out _ HB4.out) (fun hHeld => ?_)
              clear hK K
              refine wpAnyF_ready (rs := [8]) (by kernel_rfl) (by simp) ?_
              refine AllReadyF.cons rfl (fun K hK => ?_) AllReadyF.nil
              simp only [slv]
              go_simp
              refine hK.out _ _ (HSS.out _ (below_to HB4.out (below1 _ _))) (fun hHeld => ?_)
              clear hK K
              refine wpAnyF_ready (rs := [9]) (by kernel_rfl) (by simp) ?_
              refine AllReadyF.cons rfl (fun K hK => ?_) AllReadyF.nil
              refine step_append_run rfl (.tmp 95) (.tmp 102) 68 68 rfl rfl rfl HRun.out ?_
              refine hK.out _ _ (HSS.out _ HB6.out) (fun hHeld => ?_)
              clear hK K
              refine wpAnyF_take [11] (by kernel_rfl) (i := 10) (v := ?vg8) rfl (by kernel_rfl) (by kernel_rfl) (by kernel_rfl) (fun _ _ _ h => h) (Or.inl ⟨by kernel_rfl, ?hyg8⟩) hHeld ?restg8
              case hyg8 => intro w' hSw; (try dsimp only at hSw); go_simp; try with_reducible rfl
              simp only [Act.put]
              refine wpAnyF_ready (rs := [11]) (by kernel_rfl) (by simp) ?_
              refine AllReadyF.last rfl (fun K hK => ?_)
              go_simp
              refine hK.out _ _ ?_
              clear hK K
              refine wpAnyF_done (by kernel_rfl) ?_ _
              clear HSS hHeld HRun HCs HXc
              obtain ⟨w7, hw7⟩ : ∃ wx, wx = w6.setCell ⟨q + 1, 1, none⟩ (.slice (some ⟨g, 0, none⟩) 1 cap) := ⟨_, rfl⟩
              have LS : Hid (LyR wq w7 q [.int .i64 5, .int .i64 n, .int .i64 (j : Int), .slice va ps.length vc] 0 (.slice (some ⟨g, 0, none⟩) 1 cap) [⟨sa, sv, ss⟩]) := hide_ (by rw [hw7]; exact LS0.out)
              rw [← hw7]
              clear hw7 v1 vf LS0
              have o0 := LS.out.out.cell 0; have o1 := LS.out.out.cell 1
              simp at o0 o1
              have hbz : Below wq.heap.size wq w7 := by have := LS.out.below; rw [← HQ.out] at this; exact this
              have HOz := hide_ (HO.out.later hbz)
              have HBz := hide_ (below_to HB.out hbz)
              have hqw : w3.heap.size ≤ q := by rw [← HQ.out]; exact HB.out.size
              obtain ⟨gn, cn, wn, hrun, hOn, hUn, -⟩ := HOz.out.push y (by rw [HYe.out]; exact own_base LS.out.own hqw) (fun p hp k hk hk2 => by
                have h1 := (HO.out.sl p hp).lies hk
                have h2 := LS.out.own.lies hk2
                have := HQ.out
                omega) hPle HBz.out.size
              have HOn := hide_ hOn
              have HBn := hide_ (HBz.out.trans (hUn.below _ HBz.out.size (fun k hk => (HOz.out.lies hk).1)))
              have HSn := hide_ (HS0.out (.slice (some ⟨g, 0, none⟩) 1 cap))
              rw [HYe.out] at hrun
              simp only at hrun
              have HRn := hide_ hrun
              clear hrun hOn hUn HOz HBz hbz
              go_wp2_with (first | (at_builtin; refine wpList_append_run rfl (.tmp 105) (.tmp 107) 48 48 rfl rfl rfl HRn.out ?_; clear HRn) | fail)
              go_roundw
              case rel => exact ⟨_, i + 1, _, rfl, by omega, by go_num, HSn, HOn, HBn⟩
              case measure => simp [intOf]; omega
            · have h8' : (k == 8) = false := by simpa using h8
              have h4' : (k == 4) = false := by simpa using h4
              have h5' : (k == 5) = false := by simpa using h5
              have HYe : Hid (y = ⟨0, []⟩) := hide_ (by rw [← HYd.out]; unfold layP; rw [if_neg h8, if_neg h4, if_neg h5])
              have LS := HS
              clear h8 h4 h5
              have o0 := LS.out.out.cell 0; have o1 := LS.out.out.cell 1
              simp at o0 o1
              have hbz : Below wq.heap.size wq wx := by have := LS.out.below; rw [← HQ.out] at this; exact this
              have HOz := hide_ (HO.out.later hbz)
              have HBz := hide_ (below_to HB.out hbz)
              have hqw : w3.heap.size ≤ q := by rw [← HQ.out]; exact HB.out.size
              obtain ⟨gn, cn, wn, hrun, hOn, hUn, -⟩ := HOz.out.push y (by rw [HYe.out]; exact own_base LS.out.own hqw) (fun p hp k hk hk2 => by
                have h1 := (HO.out.sl p hp).lies hk
                have h2 := LS.out.own.lies hk2
                have := HQ.out
                omega) hPle HBz.out.size
              have HOn := hide_ hOn
              have HBn := hide_ (HBz.out.trans (hUn.below _ HBz.out.size (fun k hk => (HOz.out.lies hk).1)))
              have HSn := hide_ (HS0.out (.slice none 0 0))
              rw [HYe.out] at hrun
              simp only at hrun
              have HRn := hide_ hrun
              clear hrun hOn hUn HOz HBz hbz
              go_wp2_with (first | (at_builtin; refine wpList_append_run rfl (.tmp 105) (.tmp 107) 48 48 rfl rfl rfl HRn.out ?_; clear HRn) | fail)
              go_roundw
              case rel => exact ⟨_, i + 1, _, rfl, by omega, by go_num, HSn, HOn, HBn⟩
              case measure => simp [intOf]; omega
      · obtain rfl : i = T.length := by omega
        have HV : Hid (P.map (·.1) = T.map (layP (extL T))) := hide_ (by have h := HM.out; rw [List.take_length] at h; rw [HXe.out]; exact h)
        have HO2 := hide_ (HO.out.base (Nat.le_trans HB0.out.size hz3))
        go_wp2
        go_ret2
        exact .inr ⟨HOK.out, v, P, rfl, HV.out, HO2.out, below_to HB0.out (below_to HB3.out HB.out)⟩
  · have hE1 : (vE != 0) = true := by simpa using hE0
    have HV : Hid ((chk T R).1 ≠ 0) := hide_ (by rw [HE.out]; exact hE0)
    have HBf := hide_ (below_to HB0.out HB2.out)
    clear hE0
    go_wp2
    go_ret2
    exact .inl ⟨HV.out, rfl, HBf.out⟩
end Go.Proofs.Ytncndgfaalojpaa
