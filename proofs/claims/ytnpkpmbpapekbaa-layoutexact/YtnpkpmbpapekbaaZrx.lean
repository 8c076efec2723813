/- The document's extents of a schema: Of. -/
import Derived.Test.YtnpkpmbpapekbaaZro8
import Derived.Test.YtnpkpmbpapekbaaZrd
import Derived.Test.YtnpkpmbpapekbaaZp
namespace Go.Proofs.Ytnpkpmbpapekbaa
open Go.RowKit
set_option linter.unusedVariables false

theorem one_any (k n el : Int) (ps : List Pt) (va : Option Addr) (vc : Nat) (X : List Ex) (ax : Option Addr) (cx : Nat) (w : World) (hXl : X.length ≤ 10000000000000) (hbd : Hid (∀ x ∈ X, XOk x ∧ x.d ≤ 1000000)) (hok : Hid (tyOk ⟨k, n, el, ps⟩ X.length = true)) (hP : Hid (PRow w va ps)) (hX : Hid (XRow w ax X)) :
    Calls Try.prog 51 #[.agg #[.int .i64 k, .int .i64 n, .int .i64 el, .slice va ps.length vc], .slice ax X.length cx] w fun e w' => e = .returned (exv (ext1 X ⟨k, n, el, ps⟩)) ∧ Below w.heap.size w w' := by
  have hn := nOk_n hok.out
  simp only at hn
  have hk : k = 1 ∨ k = 2 ∨ k = 3 ∨ k = 4 ∨ k = 5 ∨ k = 6 ∨ k = 7 ∨ k = 8 := by omega
  have hbd2 : Hid (∀ x ∈ X, 0 ≤ x.d ∧ x.d ≤ 1000000) := hide_ (fun x hx => ⟨(hbd.out x hx).1.d0, (hbd.out x hx).2⟩)
  have hpt : Hid (∀ (j : Nat) (p : Pt), ps[j]? = some p → 0 ≤ p.ty ∧ p.ty < X.length) := hide_ (fun j p hp => tyOk_part hok.out hp)
  have hpl : ps.length ≤ 64 := tyOk_len hok.out
  have hx0 : XOk (exAt X el) := XOk.at (fun x hx => (hbd.out x hx).1) el
  have h0 := hx0.l0; have h1 := hx0.lm; have h2 := hx0.mh; have h3 := hx0.d0
  have hd1 : deepX [exAt X el] = (exAt X el).d := by
    simp only [deepX, List.foldl_cons, List.foldl_nil]
    omega
  rcases hk with rfl | rfl | rfl | rfl | rfl | rfl | rfl | rfl
  · have hps : ps = [] := tyOk_none hok.out (by simp) (by simp)
    have e : ext1 X ⟨1, n, el, ps⟩ = ⟨true, n, n, 1⟩ := by rw [hps]; rfl
    rw [e]
    exact one1_any n el ps va vc _ w
  · have hps : ps = [] := tyOk_none hok.out (by simp) (by simp)
    have e : ext1 X ⟨2, n, el, ps⟩ = ⟨true, 1, 1, 1⟩ := by rw [hps]; rfl
    rw [e]
    exact one2_any n el ps va vc _ w
  · have hps : ps = [] := tyOk_none hok.out (by simp) (by simp)
    have e : ext1 X ⟨3, n, el, ps⟩ = ⟨false, 1, 10, 1⟩ := by rw [hps]; rfl
    rw [e]
    exact one3_any n el ps va vc _ w
  · have hps : ps = [] := tyOk_none hok.out (by simp) (by simp)
    have e : ext1 X ⟨4, n, el, ps⟩ = ⟨(exAt X el).f, times2 n (offX (exAt X el)).l, times2 n (offX (exAt X el)).m, 1 + (exAt X el).d⟩ := by
      have e1 : ext1 X ⟨4, n, el, ps⟩ = ⟨(offX (exAt X el)).f, times2 n (offX (exAt X el)).l, times2 n (offX (exAt X el)).m, 1 + deepX [exAt X el]⟩ := by rw [hps]; rfl
      rw [e1, hd1, off_f]
    rw [e]
    exact one4_any n el ps va vc X ax cx w hXl hbd2 (tyOk_elem hok.out rfl) hX
  · have hps : ps = [] := tyOk_none hok.out (by simp) (by simp)
    have e : ext1 X ⟨5, n, el, ps⟩ = ⟨false, 0, times2 n (offX (exAt X el)).m, 1 + (exAt X el).d⟩ := by
      have e1 : ext1 X ⟨5, n, el, ps⟩ = ⟨false, times2 0 (offX (exAt X el)).l, times2 n (offX (exAt X el)).m, 1 + deepX [exAt X el]⟩ := by rw [hps]; rfl
      have e2 : times2 0 (offX (exAt X el)).l = 0 := by unfold times2; rw [show sz 0 = 0 from rfl, Int.zero_mul]; rfl
      rw [e1, hd1, e2]
    rw [e]
    exact one5_any n el ps va vc X ax cx w hXl hbd2 (tyOk_elem hok.out rfl) hX
  · have hps : ps = [] := tyOk_none hok.out (by simp) (by simp)
    have e : ext1 X ⟨6, n, el, ps⟩ = ⟨false, 1, plus2 1 (exAt X el).m, 1 + (exAt X el).d⟩ := by
      have e1 : ext1 X ⟨6, n, el, ps⟩ = ⟨false, plus2 1 (chX ([exAt X el] ++ [ex0])).1, plus2 1 (chX ([exAt X el] ++ [ex0])).2, 1 + deepX [exAt X el]⟩ := by rw [hps]; rfl
      have e2 : chX ([exAt X el] ++ [ex0]) = (0, (exAt X el).m) := by
        simp only [chX, List.cons_append, List.nil_append, List.foldl_cons, List.foldl_nil, ex0]
        refine Prod.ext ?_ ?_ <;> (simp only; omega)
      rw [e1, hd1, e2]
      rfl
    rw [e]
    exact one6_any n el ps va vc X ax cx w hXl hbd2 (tyOk_elem hok.out rfl) hX
  · exact one7_any n el ps va vc X ax cx w hXl hbd (tyOk_pos hok.out (.inl rfl)) hpl hpt hP hX
  · exact one8_any n el ps va vc X ax cx w hXl hbd (tyOk_pos hok.out (.inr rfl)) hpl hpt hP hX
theorem extL_bd2 {T : List Ty} {R : List Rt} (h : OkS T R) (i : Nat) (hi : i ≤ T.length) : ∀ x ∈ extL (T.take i), XOk x ∧ x.d ≤ 1000000 := fun x hx => ⟨(extL_ok h i hi x hx).1, (extL_bd h i hi x hx).2⟩
set_option maxRecDepth 100000 in
set_option maxHeartbeats 8000000 in
theorem ofR_any (a : Option Addr) (c : Nat) (T : List Ty) (ar : Option Addr) (cr : Nat) (R : List Rt) (w : World) (hn : T.length ≤ 3000000000000) (hm : R.length ≤ 10000000000000) (hL : Hid (LensT T)) (hT : Hid (TRow w a T)) (hR : Hid (RRow w ar R)) :
    Calls Try.prog 26 #[.agg #[.slice a T.length c, .slice ar R.length cr]] w fun e w' => OfTo T R w e w' := by
  have hB := below1 w (.cells #[.slice a T.length c, .slice ar R.length cr] 34)
  have k1 := Blk.newA w #[.slice a T.length c, .slice ar R.length cr] 34
  obtain ⟨w0, hw0⟩ : ∃ wx, wx = w.alloc (.cells #[.slice a T.length c, .slice ar R.length cr] 34) := ⟨_, rfl⟩
  rw [← hw0] at hB k1
  have HB0 := hide_ hB
  have K1 := hide_ k1
  have hs1 : w.heap.size < w0.heap.size := k1.lt
  have i0 := k1.cell 0; have i1 := k1.cell 1
  simp at i0 i1
  have HCk := hide_ (checkR_any a c T ar cr R w0 (by omega) hm hL (hide_ (hT.out.later hB)) (hide_ (hR.out.later hB)))
  obtain ⟨vE, hE⟩ : ∃ vE, (chk T R).1 = vE := ⟨_, rfl⟩
  obtain ⟨vA, hA⟩ : ∃ vA, (chk T R).2 = vA := ⟨_, rfl⟩
  rw [hE, hA] at HCk
  have HE := hide_ hE
  clear hB k1 hE hA
  go_enter Try.func26, Try.ntmps26
  go_upto_region 1 with fail
  rw [← hw0]
  clear hw0
  go_wp2_with fail
  refine HCk.out.mono ?_; rintro e w1 ⟨rfl, hB1⟩
  have kf := Blk.newA w1 #[.int .i64 vE, .int .i64 vA] 36
  have hB2 := below1 w1 (.cells #[.int .i64 vE, .int .i64 vA] 36)
  obtain ⟨w2, hw2⟩ : ∃ wx, wx = w1.alloc (.cells #[.int .i64 vE, .int .i64 vA] 36) := ⟨_, rfl⟩
  rw [← hw2] at kf hB2
  have HB2 := hide_ (below_to hB1 hB2)
  have j0 := kf.cell 0
  simp at j0
  clear hB1 hB2 kf HCk i0 i1
  go_upto_region 2 with fail
  rw [← hw2]
  clear hw2
  by_cases hE0 : vE = 0
  · subst hE0
    have HOK := hide_ (okS_of HE.out)
    go_wp2_with fail
    go_loopw [5, 6] (fun x5 x6 wr => ∃ (v : Value) (i : Nat), v = x5 ∧ i ≤ T.length ∧ x6 = .int .i64 (i : Int) ∧ Hid (XOwn wr w0.heap.size v (extL (T.take i))) ∧ Hid (Below w0.heap.size w0 wr)) (fun _ x6 _ => T.length - (intOf x6).toNat)
    case atStart => exact ⟨_, 0, rfl, Nat.zero_le _, rfl, hide_ (XOwn.nil _ _), HB2⟩
    case round =>
      obtain ⟨v, i, rfl, hi, rfl, HO, HB⟩ := hrel
      generalize wr = wq at *
      clear j0 HB2
      have i0 := (K1.out.later HB.out).cell 0
      simp at i0
      by_cases hlt : i < T.length
      · have hlt' : (i : Int) < T.length := by omega
        obtain ⟨b, o, rfl, hb, hc⟩ := (hT.out.later (below_to HB0.out HB.out)).open (by omega)
        have hx : T[i]? = some (T[i]'hlt) := List.getElem?_eq_getElem hlt
        obtain ⟨va, vc, hcx, hvc, -, hP⟩ := hc i _ hx
        have hok1 := HOK.out.ty i hlt
        rw [show T.getD i ty0 = T[i]'hlt by simp [List.getD, hlt]] at hok1
        have HS : Hid (extL (T.take (i + 1)) = extL (T.take i) ++ [ext1 (extL (T.take i)) (T[i]'hlt)]) := hide_ (by rw [List.take_succ_eq_append_getElem hlt, extL_snoc])
        have hXl : (extL (T.take i)).length = i := by rw [extL_len]; simp; omega
        have hbd := extL_bd2 HOK.out i hi
        generalize T[i]'hlt = t at *
        obtain ⟨k, n, el, ps⟩ := t
        simp only at hvc hP
        have i1 := hcx 0 (by decide); have i2 := hcx 1 (by decide); have i3 := hcx 2 (by decide); have i4 := hcx 3 (by decide)
        simp [tyc] at i1 i2 i3 i4
        obtain ⟨ax, cx, hv, -, -, hXr⟩ := HO.out.row
        have HCe := hide_ (one_any k n el ps va vc (extL (T.take i)) ax cx wq (by omega) (hide_ hbd) (hide_ (by rw [hXl]; exact hok1)) (hide_ hP) (hide_ hXr))
        generalize extL (T.take i) = X at *
        subst hv
        generalize ext1 X ⟨k, n, el, ps⟩ = y at *
        have hXle : X.length ≤ 4000000000000 := by omega
        have HXL := hide_ hXl
        clear hc hx hcx hP hok1 hb hXr hbd hXl
        go_wp2_with fail
        refine HCe.out.mono ?_; rintro e w4 ⟨rfl, hB4⟩
        have HO4 := hide_ (HO.out.later hB4)
        have HB4 := hide_ (below_to HB.out hB4)
        obtain ⟨v', w5, hrun, hO5, hB5⟩ := HO4.out.push y hXle HB4.out.size
        rw [← HS.out] at hO5
        have HRun := hide_ hrun
        have HO5 := hide_ hO5
        have HB5 := hide_ (HB4.out.trans hB5)
        simp only [exv]
        clear hB4 hrun hO5 hB5 HO4 HB4 HCe i1 i2 i3 i4
        go_wp2_with (first | (at_builtin; refine wpList_append_run rfl (.tmp 21) (.tmp 29) 41 41 rfl rfl rfl HRun.out ?_; clear HRun))
        go_roundw
        case rel => exact ⟨_, i + 1, rfl, by omega, by go_num, HO5, HB5⟩
        case measure => simp [intOf]; omega
      · have hlt' : ¬ (i : Int) < T.length := by omega
        have HV : Hid (XOwn wq w.heap.size v (extL T)) := hide_ (by have h := HO.out; rw [List.take_of_length_le (by omega)] at h; exact own_base h (by omega))
        go_wp2
        go_ret2
        exact .inr ⟨HOK.out, v, rfl, HV.out, below_to HB0.out HB.out⟩
  · have hE1 : (vE != 0) = true := by simpa using hE0
    have HV : Hid ((chk T R).1 ≠ 0) := hide_ (by rw [HE.out]; exact hE0)
    have HBf := hide_ (below_to HB0.out HB2.out)
    go_wp2_with fail
    go_region
    all_goals
      have HBd := hide_ (HBf.out.drew)
      go_wp2
      go_ret2
      exact .inl ⟨HV.out, by rw [HE.out]; rfl, HBd.out⟩
end Go.Proofs.Ytnpkpmbpapekbaa
