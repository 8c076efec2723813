/- size.Of: the walk. -/
import Derived.Test.YtncndgfaalojpaaZo
import Derived.Deep.OwnRows
namespace Go.Proofs.Ytncndgfaalojpaa
open Go.RowKit
set_option linter.unusedVariables false

theorem makeX (n : Nat) (hn : n ≤ 3000000000000) (w : World) : (Instr.makeSlice 44 (.int .i64 0) (.int .i64 (n : Int))).run Try.prog w = .ok (.slice (some ⟨w.heap.size, 0, none⟩) 0 n) (w.alloc (.cells (madeCells #[.bool false, .int .i64 0, .int .i64 0, .int .i64 0] (n * 4)) 63)) := by
  obtain ⟨i0, hi, hz0, hz1, hz2⟩ := info_parts infoX
  have hb : (i0.bytes : Int) * (n : Int) ≤ 281474976710656 := by rw [hz2]; omega
  have hr := run_make (P := Try.prog) w 44 63 i0 (.agg #[.bool false, .int .i64 0, .int .i64 0, .int .i64 0]) Try.underlying44 hi hz0 .i64 .i64 0 n (by omega) (by omega) hb (by omega)
  rw [Int.toNat_natCast, hz1] at hr
  exact hr
theorem XOwn.made (w : World) (n : Nat) (hn : n ≤ 3000000000000) : XOwn (w.alloc (.cells (madeCells #[.bool false, .int .i64 0, .int .i64 0, .int .i64 0] (n * 4)) 63)) w.heap.size (.slice (some ⟨w.heap.size, 0, none⟩) 0 n) [] := by
  have h := ownS_of_blk (c := 4) (n := 0) (cap := n) (Blk.newA w (madeCells #[.bool false, .int .i64 0, .int .i64 0, .int .i64 0] (n * 4)) 63) (Nat.le_refl _) (by simp [size_madeCells]) (Nat.zero_le _) (by unfold maxLen; omega)
  simpa [XOwn, cellsG] using h
set_option maxRecDepth 100000 in
set_option maxHeartbeats 8000000 in
theorem of_any (a : Option Addr) (c : Nat) (T : List Ty) (ar : Option Addr) (cr : Nat) (R : List Rt) (w : World) (hn : T.length ≤ 3000000000000) (hm : R.length ≤ 10000000000000) (hL : Hid (LensT T)) (hT : Hid (TRow w a T)) (hR : Hid (RRow w ar R)) :
    Calls Try.prog 11 #[.agg #[.slice a T.length c, .slice ar R.length cr]] w fun e w' => OfTo T R w e w' := by
  have hB := below1 w (.cells #[.slice a T.length c, .slice ar R.length cr] 25)
  have k1 := Blk.newA w #[.slice a T.length c, .slice ar R.length cr] 25
  obtain ⟨w0, hw0⟩ : ∃ wx, wx = w.alloc (.cells #[.slice a T.length c, .slice ar R.length cr] 25) := ⟨_, rfl⟩
  rw [← hw0] at hB k1
  have HB0 := hide_ hB
  have K1 := hide_ k1
  have hs1 : w.heap.size < w0.heap.size := k1.lt
  have i0 := k1.cell 0; have i1 := k1.cell 1
  simp at i0 i1
  have HCk := hide_ (check_any a c T ar cr R w0 (by omega) hm hL (hide_ (hT.out.later hB)) (hide_ (hR.out.later hB)))
  obtain ⟨vE, hE⟩ : ∃ vE, (chk T R).1 = vE := ⟨_, rfl⟩
  obtain ⟨vA, hA⟩ : ∃ vA, (chk T R).2 = vA := ⟨_, rfl⟩
  rw [hE, hA] at HCk
  have HE := hide_ hE
  clear hB k1 hE hA
  go_enter Try.func11, Try.ntmps11
  go_upto_region 1 with fail
  rw [← hw0]
  clear hw0
  go_wp2_with fail
  refine HCk.out.mono ?_; rintro e w1 ⟨rfl, hB1⟩
  have kf := Blk.newA w1 #[.int .i64 vE, .int .i64 vA] 60
  have hB2 := below1 w1 (.cells #[.int .i64 vE, .int .i64 vA] 60)
  obtain ⟨w2, hw2⟩ : ∃ wx, wx = w1.alloc (.cells #[.int .i64 vE, .int .i64 vA] 60) := ⟨_, rfl⟩
  rw [← hw2] at kf hB2
  have HB2 := hide_ (below_to hB1 hB2)
  have j0 := kf.cell 0
  simp at j0
  clear hB1 hB2 kf HCk i0 i1
  go_upto_region 2 with fail
  rw [← hw2]
  clear hw2
  by_cases hE0 : vE = 0
  · subst hE0
    have HOK := hide_ (okS_of HE.out)
    have K2 := hide_ (K1.out.later HB2.out)
    have l0 := K2.out.cell 0; have l1 := K2.out.cell 1
    simp at l0 l1
    have hmk := makeX T.length hn
    have HXm := hide_ (XOwn.made w2 T.length hn)
    have hB3 := below1 w2 (.cells (madeCells #[.bool false, .int .i64 0, .int .i64 0, .int .i64 0] (T.length * 4)) 63)
    obtain ⟨w3, hw3⟩ : ∃ w3, w3 = w2.alloc (.cells (madeCells #[.bool false, .int .i64 0, .int .i64 0, .int .i64 0] (T.length * 4)) 63) := ⟨_, rfl⟩
    rw [← hw3] at HXm hB3
    have HB3 := hide_ (below_to HB2.out hB3)
    have hz2 : w0.heap.size ≤ w2.heap.size := HB2.out.size
    have K3 := hide_ (K1.out.later HB3.out)
    have m0 := K3.out.cell 0
    simp at m0
    have HX0 : Hid (XOwn w3 w0.heap.size (.slice (some ⟨w2.heap.size, 0, none⟩) 0 T.length) (extL (T.take 0))) := hide_ (own_base HXm.out hz2)
    clear hB3 HXm
    go_upto_region 5 with fail
    rw [← hw3]
    clear hw3 hmk l0 l1 j0
    go_wp2_with fail
    go_loopw [5, 22] (fun x5 x22 wr => ∃ (v : Value) (i : Nat), v = x5 ∧ i ≤ T.length ∧ x22 = .int .i64 (i : Int) ∧ Hid (XOwn wr w0.heap.size v (extL (T.take i))) ∧ Hid (Below w0.heap.size w0 wr)) (fun _ x22 _ => T.length - (intOf x22).toNat)
    case atStart => exact ⟨_, 0, rfl, Nat.zero_le _, rfl, HX0, HB3⟩
    case round =>
      obtain ⟨v, i, rfl, hi, rfl, HO, HB⟩ := hrel
      generalize wr = wq at *
      clear HX0 HB3 K3 m0 K2 HB2
      by_cases hlt : i < T.length
      · have hlt' : (i : Int) < T.length := by omega
        obtain ⟨b, o, rfl, hb, hc⟩ := (hT.out.later (below_to HB0.out HB.out)).open (by omega)
        have hx : T[i]? = some (T[i]'hlt) := List.getElem?_eq_getElem hlt
        obtain ⟨va, vc, hcx, hvc, -, hP⟩ := hc i _ hx
        have hok1 := HOK.out.ty i hlt
        rw [show T.getD i ty0 = T[i]'hlt by simp [List.getD, hlt]] at hok1
        have HS : Hid (extL (T.take (i + 1)) = extL (T.take i) ++ [ext1 (extL (T.take i)) (T[i]'hlt)]) := hide_ (by rw [List.take_succ_eq_append_getElem hlt, extL_snoc])
        have hXl : (extL (T.take i)).length = i := by rw [extL_len]; simp; omega
        have hbd := extL_bd HOK.out i hi
        generalize T[i]'hlt = t at *
        obtain ⟨k, n, el, ps⟩ := t
        simp only at hvc hP
        have i0 := hcx 0 (by decide); have i1 := hcx 1 (by decide); have i2 := hcx 2 (by decide); have i3 := hcx 3 (by decide)
        simp [tyc] at i0 i1 i2 i3
        have kt := Blk.newA wq #[.int .i64 k, .int .i64 n, .int .i64 el, .slice va ps.length vc] 43
        have hBx := below1 wq (.cells #[.int .i64 k, .int .i64 n, .int .i64 el, .slice va ps.length vc] 43)
        obtain ⟨wx, hwx⟩ : ∃ wx, wx = wq.alloc (.cells #[.int .i64 k, .int .i64 n, .int .i64 el, .slice va ps.length vc] 43) := ⟨_, rfl⟩
        rw [← hwx] at kt hBx
        have HBx := hide_ (below_to HB.out hBx)
        have HOx := hide_ (HO.out.later hBx)
        obtain ⟨ax, cx, hv, -, -, hXr⟩ := HOx.out.row
        have HCe := hide_ (extentOf_any k n el ps va vc (extL (T.take i)) ax cx wx (by omega) (hide_ hbd) (hide_ (by rw [hXl]; exact hok1)) (hide_ (hP.later hBx)) (hide_ hXr))
        generalize extL (T.take i) = X at *
        subst hv
        generalize ext1 X ⟨k, n, el, ps⟩ = y at *
        have j0 := kt.cell 0; have j1 := kt.cell 1; have j2 := kt.cell 2; have j3 := kt.cell 3
        simp at j0 j1 j2 j3
        have hXle : X.length ≤ 4000000000000 := by omega
        have HXL := hide_ hXl
        clear hc hx hcx hP kt hBx hok1 hb hXr HO hbd hXl
        go_upto_region 8 with fail
        rw [← hwx]
        clear hwx i0 i1 i2 i3
        go_wp2_with fail
        refine HCe.out.mono ?_; rintro e w4 ⟨rfl, hB4⟩
        have HO4 := hide_ (HOx.out.later hB4)
        have HB4 := hide_ (below_to HBx.out hB4)
        obtain ⟨v', w5, hrun, hO5, hB5⟩ := HO4.out.push y hXle HB4.out.size
        rw [← HS.out] at hO5
        have HRun := hide_ hrun
        have HO5 := hide_ hO5
        have HB5 := hide_ (HB4.out.trans hB5)
        simp only [exv]
        clear hB4 hrun hO5 hB5 HO4 HB4 HOx HBx j0 j1 j2 j3 HCe
        go_wp2_with (first | (at_builtin; refine wpList_append_run rfl (.tmp 26) (.tmp 30) 44 44 rfl rfl rfl HRun.out ?_; clear HRun))
        go_roundw
        case rel => exact ⟨_, i + 1, rfl, by omega, by go_num, HO5, HB5⟩
        case measure => simp [intOf]; omega
      · obtain rfl : i = T.length := by omega
        have HV : Hid (XOwn wq w.heap.size v (extL T)) := hide_ (by have h := HO.out; rw [List.take_length] at h; exact own_base h (by omega))
        go_wp2
        go_ret2
        exact .inr ⟨HOK.out, v, rfl, HV.out, below_to HB0.out HB.out⟩
  · have hE1 : (vE != 0) = true := by simpa using hE0
    have HV : Hid ((chk T R).1 ≠ 0) := hide_ (by rw [HE.out]; exact hE0)
    have HBf := hide_ (below_to HB0.out HB2.out)
    go_wp2_with fail
    go_quiet (fail)
    have HBq := hide_ (below_drewN HBf.out nq)
    go_wp2
    go_ret2
    exact .inl ⟨HV.out, by rw [HE.out]; rfl, HBq.out⟩
end Go.Proofs.Ytncndgfaalojpaa
