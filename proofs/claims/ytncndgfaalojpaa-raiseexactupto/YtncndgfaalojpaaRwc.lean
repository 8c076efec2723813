/- Raise: leaf, pastItem, fixedItems, variableItems, items. -/
import Derived.Test.YtncndgfaalojpaaRwb
import Derived.Test.YtncndgfaalojpaaRwp
import Derived.Test.YtncndgfaalojpaaEg
namespace Go.Proofs.Ytncndgfaalojpaa
open Go.RowKit
set_option linter.unusedVariables false

theorem below_le {B B2 : Nat} {w w2 : World} (h : Below B w w2) (hB : B2 ≤ B) : Below B2 w w2 := ⟨h.os, h.tape, h.output, h.size, fun k hk => h.block k (by omega)⟩
/-- The types lie below B. -/
def Tc (B : Nat) (w : World) (aT : Option Addr) (T : List Ty) : Prop := ∀ n t, T[n]? = some t → ∃ b o va vc, aT = some ⟨b, o, none⟩ ∧ t.ps.length ≤ vc ∧ (va = none → vc = 0) ∧ ∀ w', Below B w w' → (∀ j, j < 4 → w'.cell? ⟨b, o + n * 4 + j, none⟩ = (tyc t (.slice va t.ps.length vc))[j]?) ∧ PRow w' va t.ps
theorem Tc.kp {B : Nat} {w w' : World} {aT : Option Addr} {T : List Ty} (h : Tc B w aT T) (hB : B ≤ w.heap.size) (hk : Kp B w w') : Tc B w' aT T := fun n t ht => by
  obtain ⟨b, o, va, vc, h1, h2, h3, h4⟩ := h n t ht
  exact ⟨b, o, va, vc, h1, h2, h3, fun w'' hb => h4 w'' ((hk.below hB).trans hb)⟩
theorem Tc.of {w0 w : World} {B : Nat} {aT : Option Addr} {T : List Ty} (h : TRow w0 aT T) (hB : w0.heap.size ≤ B) (hb : Below w0.heap.size w0 w) : Tc B w aT T := fun n t ht => by
  obtain ⟨b, o, rfl, hbl, hc⟩ := h.open (by have := (List.getElem?_eq_some_iff.1 ht).1; omega)
  obtain ⟨va, vc, h1, h2, h3, h4⟩ := hc n t ht
  refine ⟨b, o, va, vc, rfl, h2, h3, fun w' hw => ?_⟩
  have hb' : Below w0.heap.size w0 w' := hb.trans (below_le hw hB)
  exact ⟨fun j hj => (hb'.cell (p := ⟨b, o + n * 4 + j, none⟩) hbl).trans (h1 j hj), h4.later hb'⟩
/-- A layout and its slots lie below B. -/
def Lc (B : Nat) (w : World) (aL : Option Addr) (Y : List Ly) : Prop := ∀ (n : Nat) (y : Ly), Y[n]? = some y → ∃ b o sa sc, aL = some ⟨b, o, none⟩ ∧ ∀ w', Below B w w' → w'.cell? ⟨b, o + n * 2, none⟩ = some (.int .i64 y.sz) ∧ w'.cell? ⟨b, o + n * 2 + 1, none⟩ = some (.slice sa y.sl.length sc) ∧ GRow 3 slc w' sa y.sl
theorem Lc.kp {B : Nat} {w w' : World} {aL : Option Addr} {Y : List Ly} (h : Lc B w aL Y) (hB : B ≤ w.heap.size) (hk : Kp B w w') : Lc B w' aL Y := fun n t ht => by
  obtain ⟨b, o, sa, sc, h1, h2⟩ := h n t ht
  exact ⟨b, o, sa, sc, h1, fun w'' hb => h2 w'' ((hk.below hB).trans hb)⟩
theorem Rz.fn {w : World} {B gr gp gb : Nat} {vT vL : Value} {C : List In} {E : List Int} (h : Rz w B gr gp gb vT vL C E) : w.cell? ⟨gr, 2, none⟩ = some (.func (.func 23) #[] #[.pointer (some ⟨gb, 0, none⟩)]) := by
  have := h.br.cell 2
  simpa [fnL] using this
/-- What leaf lays. -/
def lfL (t : Ty) (pl : Int) : List In := if isLf t then [lfP t pl in0] else []
set_option maxRecDepth 100000 in
set_option maxHeartbeats 4000000 in
theorem leaf_any (B gr gp gb : Nat) (vT vL : Value) (C : List In) (E : List Int) (pl k nn el : Int) (ps : List Pt) (va : Option Addr) (vc : Nat) (w : World) (hl : C.length ≤ 1000000000) (h : Hid (Rz w B gr gp gb vT vL C E)) :
    Calls Try.prog 25 #[.pointer (some ⟨gr, 0, none⟩), .int .i64 pl, .agg #[.int .i64 k, .int .i64 nn, .int .i64 el, .slice va ps.length vc]] w fun e w' => e = .returned (.bool (isLf ⟨k, nn, el, ps⟩)) ∧ Hid (Rz w' B gr gp gb vT vL (C ++ lfL ⟨k, nn, el, ps⟩ pl) E) ∧ Hid (Kp B w w') := by
  obtain ⟨w1, hw1⟩ : ∃ wx, wx = w.alloc (.cells #[.int .i64 k, .int .i64 nn, .int .i64 el, .slice va ps.length vc] 43) := ⟨_, rfl⟩
  have hB1 : Below w.heap.size w w1 := by rw [hw1]; exact below1 _ _
  have kt : Blk w1 w.heap.size 43 [.int .i64 k, .int .i64 nn, .int .i64 el, .slice va ps.length vc] := by rw [hw1]; exact Blk.newA w _ _
  have H1 := hide_ (h.out.later hB1)
  have HK1 : Hid (Kp B w w1) := hide_ (Kp.later hB1)
  have j0 := kt.cell 0
  simp at j0
  have KT := hide_ kt
  clear hB1 kt h
  go_enter Try.func25, Try.ntmps25
  go_upto_region 1 with fail
  rw [← hw1]
  clear hw1
  by_cases h1 : k = 1
  · subst h1
    have HI : Hid (isLf ⟨1, nn, el, ps⟩ = true) := hide_ rfl
    have HE : Hid (lfL ⟨1, nn, el, ps⟩ pl = [layI ⟨33, pl, nn, 0⟩ C.length]) := hide_ rfl
    have HLy := hide_ (lay_any B gr gp gb vT vL C E ⟨33, pl, nn, 0⟩ w1.drew hl (fun h => by cases h) (hide_ (H1.out.later ((Below.refl _ _).drew))))
    have HSS : Hid (∀ w', Below w1.heap.size w1 w' → (fun w' => w'.cell? ⟨gr, 2, none⟩ = some (.func (.func 23) #[] #[.pointer (some ⟨gb, 0, none⟩)]) ∧ w'.cell? ⟨w.heap.size, 1, none⟩ = some (.int .i64 nn)) w') := hide_ (fun w' hb => ⟨(H1.out.later hb).fn, (KT.out.later hb).cell 1⟩)
    clear H1 KT
    go_upto_region 4 with fail
    clear j0
    refine wp_region_last 8 (fun w' => w'.cell? ⟨gr, 2, none⟩ = some (.func (.func 23) #[] #[.pointer (some ⟨gb, 0, none⟩)]) ∧ w'.cell? ⟨w.heap.size, 1, none⟩ = some (.int .i64 nn)) (by kernel_rfl) (HSS.out _ ((Below.refl w1.heap.size w1).drew)) (fun hHeld => ?_)
    refine wpAnyF_take [8, 3, 2, 1] (by kernel_rfl) (i := 0) (v := ?va1) rfl (by kernel_rfl) (by kernel_rfl) (by kernel_rfl) (fun _ _ _ h => h) (Or.inl ⟨by kernel_rfl, ?hya1⟩) hHeld ?resta1
    case hya1 => intro w' hSw; (try dsimp only at hSw); go_simp; try with_reducible rfl
    simp only [Act.put]
    refine wpAnyF_take [8, 3, 2] (by kernel_rfl) (i := 1) (v := ?va2) rfl (by kernel_rfl) (by kernel_rfl) (by kernel_rfl) (fun _ _ _ h => h) (Or.inl ⟨by kernel_rfl, ?hya2⟩) hHeld ?resta2
    case hya2 => intro w' hSw; (try dsimp only at hSw); go_simp; try with_reducible rfl
    simp only [Act.put]
    refine wpAnyF_take [8, 3] (by kernel_rfl) (i := 2) (v := ?va3) rfl (by kernel_rfl) (by kernel_rfl) (by kernel_rfl) (fun _ _ _ h => h) (Or.inl ⟨by kernel_rfl, ?hya3⟩) hHeld ?resta3
    case hya3 => intro w' hSw; (try dsimp only at hSw); go_simp; try with_reducible rfl
    simp only [Act.put]
    refine wpAnyF_take [8] (by kernel_rfl) (i := 3) (v := ?va4) rfl (by kernel_rfl) (by kernel_rfl) (by kernel_rfl) (fun _ _ _ h => h) (Or.inl ⟨by kernel_rfl, ?hya4⟩) hHeld ?resta4
    case hya4 => intro w' hSw; (try dsimp only at hSw); go_simp; try with_reducible rfl
    simp only [Act.put]
    refine wpAnyF_take [8, 7] (by kernel_rfl) (i := 4) (v := ?va5) rfl (by kernel_rfl) (by kernel_rfl) (by kernel_rfl) (fun _ _ _ h => h) (Or.inl ⟨by kernel_rfl, ?hya5⟩) hHeld ?resta5
    case hya5 => intro w' hSw; (try dsimp only at hSw); go_simp; try with_reducible rfl
    simp only [Act.put]
    refine wpAnyF_take [8, 7, 6] (by kernel_rfl) (i := 5) (v := ?va6) rfl (by kernel_rfl) (by kernel_rfl) (by kernel_rfl) (fun _ _ _ h => h) (Or.inl ⟨by kernel_rfl, ?hya6⟩) hHeld ?resta6
    case hya6 => intro w' hSw; (try dsimp only at hSw); go_simp; try with_reducible rfl
    simp only [Act.put]
    refine wpAnyF_take [8, 7] (by kernel_rfl) (i := 6) (v := ?va7) rfl (by kernel_rfl) (by kernel_rfl) (by kernel_rfl) (fun _ _ _ h => h) (Or.inl ⟨by kernel_rfl, ?hya7⟩) hHeld ?resta7
    case hya7 => intro w' hSw; (try dsimp only at hSw); go_simp; try with_reducible rfl
    simp only [Act.put]
    refine wpAnyF_take [8] (by kernel_rfl) (i := 7) (v := ?va8) rfl (by kernel_rfl) (by kernel_rfl) (by kernel_rfl) (fun _ _ _ h => h) (Or.inl ⟨by kernel_rfl, ?hya8⟩) hHeld ?resta8
    case hya8 => intro w' hSw; (try dsimp only at hSw); go_simp; try with_reducible rfl
    simp only [Act.put]
    refine wpAnyF_ready (rs := [8]) (by kernel_rfl) (by simp) ?_
    refine AllReadyF.last rfl (fun K hK => ?_)
    go_simp
    refine HLy.out.mono ?_
    rintro e w4 ⟨rfl, HM4, HK4⟩
    dsimp only
    refine hK.out _ _ ?_
    clear hK K
    refine wpAnyF_done (by kernel_rfl) ?_ _
    go_wp2_with fail
    go_ret
    exact ⟨by rw [HI.out]; rfl, hide_ (by rw [HE.out]; exact HM4.out), hide_ (HK1.out.trans ((Kp.later ((Below.refl w1.heap.size w1).drew)).trans HK4.out))⟩
  by_cases h2 : k = 2
  · subst h2
    have HI : Hid (isLf ⟨2, nn, el, ps⟩ = true) := hide_ rfl
    have HE : Hid (lfL ⟨2, nn, el, ps⟩ pl = [layI ⟨35, pl, 0, 0⟩ C.length]) := hide_ rfl
    have HLy := hide_ (lay_any B gr gp gb vT vL C E ⟨35, pl, 0, 0⟩ w1 hl (fun h => by cases h) H1)
    have jf := H1.out.fn
    clear H1 KT
    go_wp2_with (go_at_call 23; refine HLy.out.mono ?_; rintro e w4 ⟨rfl, HM4, HK4⟩)
    go_ret
    exact ⟨by rw [HI.out]; rfl, hide_ (by rw [HE.out]; exact HM4.out), hide_ (HK1.out.trans HK4.out)⟩
  · have HI : Hid (isLf ⟨k, nn, el, ps⟩ = false) := hide_ (by unfold isLf; exact decide_eq_false (by simp only; omega))
    have HE : Hid (lfL ⟨k, nn, el, ps⟩ pl = []) := hide_ (by unfold lfL; rw [HI.out]; rfl)
    have e1 : (k == 1) = false := by simpa using h1
    have e2 : (k == 2) = false := by simpa using h2
    clear h1 h2
    go_wp2_with fail
    go_ret
    exact ⟨by rw [HI.out]; rfl, hide_ (by rw [HE.out, List.append_nil]; exact H1.out), HK1⟩
/-- What pastItem lays. -/
def pstL (k n : Int) (m : Nat) : List In := if k = 5 then [⟨19, 0, n + 1 + (m : Int), 0⟩] else []
set_option maxRecDepth 100000 in
set_option maxHeartbeats 4000000 in
theorem past_any (B gr gp gb : Nat) (vT vL : Value) (C : List In) (E : List Int) (n k nn el : Int) (ps : List Pt) (va : Option Addr) (vc : Nat) (w : World) (hl : C.length ≤ 1000000000) (hn : 0 ≤ n ∧ n ≤ 10) (h : Hid (Rz w B gr gp gb vT vL C E)) :
    Calls Try.prog 74 #[.pointer (some ⟨gr, 0, none⟩), .agg #[.int .i64 k, .int .i64 nn, .int .i64 el, .slice va ps.length vc], .int .i64 n] w fun e w' => e = .returned (.tuple #[]) ∧ Hid (Rz w' B gr gp gb vT vL (C ++ pstL k n C.length) E) ∧ Hid (Kp B w w') := by
  obtain ⟨w1, hw1⟩ : ∃ wx, wx = w.alloc (.cells #[.int .i64 k, .int .i64 nn, .int .i64 el, .slice va ps.length vc] 43) := ⟨_, rfl⟩
  have hB1 : Below w.heap.size w w1 := by rw [hw1]; exact below1 _ _
  have kt : Blk w1 w.heap.size 43 [.int .i64 k, .int .i64 nn, .int .i64 el, .slice va ps.length vc] := by rw [hw1]; exact Blk.newA w _ _
  have H1 := hide_ (h.out.later hB1)
  have HK1 : Hid (Kp B w w1) := hide_ (Kp.later hB1)
  have j0 := kt.cell 0
  simp at j0
  obtain ⟨hn0, hn1⟩ := hn
  clear hB1 kt h
  go_enter Try.func74, Try.ntmps74
  go_upto_region 1 with fail
  rw [← hw1]
  clear hw1
  by_cases h5 : k = 5
  · subst h5
    have HE : Hid (pstL 5 n C.length = [layI ⟨19, 0, n + 1, 0⟩ C.length]) := hide_ rfl
    have HLy := hide_ (lay_any B gr gp gb vT vL C E ⟨19, 0, n + 1, 0⟩ w1 hl (fun _ => ⟨by show _ ≤ n + 1; omega, by show n + 1 ≤ _; omega⟩) H1)
    have jf := H1.out.fn
    go_wp2_with (go_at_call 23; refine HLy.out.mono ?_; rintro e w4 ⟨rfl, HM4, HK4⟩)
    go_end0
    exact ⟨rfl, hide_ (by rw [HE.out]; exact HM4.out), hide_ (HK1.out.trans HK4.out)⟩
  · have e5 : (k == 5) = false := by simpa using h5
    have HE : Hid (pstL k n C.length = []) := hide_ (by unfold pstL; rw [if_neg h5])
    clear h5
    go_wp2_with fail
    go_end0
    exact ⟨rfl, hide_ (by rw [HE.out, List.append_nil]; exact H1.out), HK1⟩
theorem lfL_len (t : Ty) (pl : Int) : (lfL t pl).length ≤ 1 := by unfold lfL; split <;> simp
theorem pstL_len (k n : Int) (m : Nat) : (pstL k n m).length ≤ 1 := by unfold pstL; split <;> simp
theorem fix_yes {T : List Ty} {C : List In} {t t2 : Ty} {sz b : Int} (hb : (C.length : Int) = b + 1) (ht : tyA T t.e = t2) (hL : isLf t2 = true) : ((C ++ pstL t.k 1 C.length) ++ lfL t2 (-1)) ++ [layI ⟨47, 0, -1, 0⟩ ((C ++ pstL t.k 1 C.length) ++ lfL t2 (-1)).length] = C ++ zrF T t sz b := by
  unfold zrF lfL pstL
  rw [ht, if_pos hL, lfP_any hL (-1) in0 ⟨45, sz, 0, t.e⟩]
  by_cases h5 : t.k = 5
  · rw [if_pos h5, if_pos h5]
    simp [layI, hopB, hb]
    omega
  · rw [if_neg h5, if_neg h5]
    simp [layI, hopB, hb]
    omega
theorem fix_no {T : List Ty} {C : List In} {t t2 : Ty} {sz b : Int} (hb : (C.length : Int) = b + 1) (ht : tyA T t.e = t2) (hL : isLf t2 = false) : (((C ++ pstL t.k 1 C.length) ++ lfL t2 (-1)) ++ [layI ⟨45, sz, 0, t.e⟩ ((C ++ pstL t.k 1 C.length) ++ lfL t2 (-1)).length]) ++ [layI ⟨47, 0, -1, 0⟩ (((C ++ pstL t.k 1 C.length) ++ lfL t2 (-1)) ++ [layI ⟨45, sz, 0, t.e⟩ ((C ++ pstL t.k 1 C.length) ++ lfL t2 (-1)).length]).length] = C ++ zrF T t sz b := by
  unfold zrF lfL pstL
  rw [ht, hL, lfP_no hL (-1) ⟨45, sz, 0, t.e⟩]
  by_cases h5 : t.k = 5
  · rw [if_pos h5, if_pos h5]
    simp [layI, hopB, hb]
    omega
  · rw [if_neg h5, if_neg h5]
    simp [layI, hopB, hb]
    omega
theorem Kp.bT {B : Nat} {w w' : World} {g : Nat} {xs : List Value} (h : Kp B w w') (hb : Blk w g 43 xs) : Blk w' g 43 xs := h.blk hb (by unfold own3; decide)
set_option maxRecDepth 100000 in
set_option maxHeartbeats 4000000 in
theorem fixed_any (B gr gp gb : Nat) (aT : Option Addr) (cT : Nat) (T : List Ty) (vL : Value) (C : List In) (E : List Int) (k nn : Int) (el : Nat) (ps : List Pt) (va : Option Addr) (vc : Nat) (t2 : Ty) (sz b : Int) (w : World) (hl : C.length ≤ 900000000) (hb : (C.length : Int) = b + 1) (hn : T[el]? = some t2) (HT : Hid (Tc B w aT T)) (h : Hid (Rz w B gr gp gb (.slice aT T.length cT) vL C E)) :
    Calls Try.prog 54 #[.pointer (some ⟨gr, 0, none⟩), .agg #[.int .i64 k, .int .i64 nn, .int .i64 (el : Int), .slice va ps.length vc], .int .i64 sz] w fun e w' => e = .returned (.tuple #[]) ∧ Hid (Rz w' B gr gp gb (.slice aT T.length cT) vL (C ++ zrF T ⟨k, nn, (el : Int), ps⟩ sz b) E) ∧ Hid (Kp B w w') := by
  have hlt' : (el : Int) < T.length := by have := (List.getElem?_eq_some_iff.1 hn).1; omega
  have hbase := h.out.base
  obtain ⟨w1, hw1⟩ : ∃ wx, wx = w.alloc (.cells #[.int .i64 k, .int .i64 nn, .int .i64 (el : Int), .slice va ps.length vc] 43) := ⟨_, rfl⟩
  have hB1 : Below w.heap.size w w1 := by rw [hw1]; exact below1 _ _
  have kt : Blk w1 w.heap.size 43 [.int .i64 k, .int .i64 nn, .int .i64 (el : Int), .slice va ps.length vc] := by rw [hw1]; exact Blk.newA w _ _
  have H1 := hide_ (h.out.later hB1)
  have HK1 : Hid (Kp B w w1) := hide_ (Kp.later hB1)
  have HP := hide_ (past_any B gr gp gb _ vL C E 1 k nn (el : Int) ps va vc w1 (by omega) ⟨by decide, by decide⟩ H1)
  have j0 := kt.cell 0; have j1 := kt.cell 1; have j2 := kt.cell 2; have j3 := kt.cell 3
  simp at j0 j1 j2 j3
  have KT := hide_ kt
  have HY := hide_ (fun hL => fix_yes (T := T) (C := C) (t := ⟨k, nn, (el : Int), ps⟩) (t2 := t2) (sz := sz) hb (tyA_at hn) hL)
  have HN := hide_ (fun hL => fix_no (T := T) (C := C) (t := ⟨k, nn, (el : Int), ps⟩) (t2 := t2) (sz := sz) hb (tyA_at hn) hL)
  simp only at HY HN
  clear hB1 kt h
  go_enter Try.func54, Try.ntmps54
  go_upto_region 1 with fail
  rw [← hw1]
  clear hw1
  go_upto_region 2 with (go_at_call 74; refine HP.out.mono ?_; rintro e w3 ⟨rfl, HM3, HK3⟩)
  clear HP j0 j1 j2 j3
  have HKa := hide_ (HK1.out.trans HK3.out)
  have KT3 := hide_ (HK3.out.bT KT.out)
  have HT3 := hide_ (HT.out.kp hbase HKa.out)
  have hb3 : B ≤ w3.heap.size := Nat.le_trans hbase HKa.out.size
  obtain ⟨bT, oT, va2, vc2, rfl, -, -, htc⟩ := HT3.out el t2 hn
  obtain ⟨k2, n2, e2, ps2⟩ := t2
  have hpl := pstL_len k 1 C.length
  have hll := lfL_len ⟨k2, n2, e2, ps2⟩ (-1)
  have HLf := hide_ (leaf_any B gr gp gb _ vL (C ++ pstL k 1 C.length) E (-1) k2 n2 e2 ps2 va2 vc2 w3.drew (by rw [List.length_append]; omega) (hide_ (HM3.out.later ((Below.refl _ _).drew))))
  have hSt : ∀ w', Rz w' B gr gp gb (.slice (some ⟨bT, oT, none⟩) T.length cT) vL ((C ++ pstL k 1 C.length)) E ∨ Rz w' B gr gp gb (.slice (some ⟨bT, oT, none⟩) T.length cT) vL ((C ++ pstL k 1 C.length) ++ lfL ⟨k2, n2, e2, ps2⟩ (-1)) E → Kp B w3 w' → (fun w' => w'.cell? ⟨gr, 0, none⟩ = some (.slice (some ⟨bT, oT, none⟩) T.length cT) ∧ w'.cell? ⟨w.heap.size, 2, none⟩ = some (.int .i64 (el : Int)) ∧ w'.cell? ⟨bT, oT + el * 4, none⟩ = some (.int .i64 k2) ∧ w'.cell? ⟨bT, oT + el * 4 + 1, none⟩ = some (.int .i64 n2) ∧ w'.cell? ⟨bT, oT + el * 4 + 2, none⟩ = some (.int .i64 e2) ∧ w'.cell? ⟨bT, oT + el * 4 + 3, none⟩ = some (.slice va2 ps2.length vc2)) w' := fun w' hr hk => by
    obtain ⟨hcc, -⟩ := htc w' (hk.below hb3)
    have i0 := hcc 0 (by decide); have i1 := hcc 1 (by decide); have i2 := hcc 2 (by decide); have i3 := hcc 3 (by decide)
    simp [tyc] at i0 i1 i2 i3
    have hg : w'.cell? ⟨gr, 0, none⟩ = some (.slice (some ⟨bT, oT, none⟩) T.length cT) := by
      rcases hr with hr | hr
      · have := hr.br.cell 0; simpa using this
      · have := hr.br.cell 0; simpa using this
    have hg2 := (hk.bT KT3.out).cell 2
    simp at hg2
    exact ⟨hg, hg2, i0, i1, i2, i3⟩
  have HSS : Hid (∀ w', Below w3.heap.size w3 w' → (fun w' => w'.cell? ⟨gr, 0, none⟩ = some (.slice (some ⟨bT, oT, none⟩) T.length cT) ∧ w'.cell? ⟨w.heap.size, 2, none⟩ = some (.int .i64 (el : Int)) ∧ w'.cell? ⟨bT, oT + el * 4, none⟩ = some (.int .i64 k2) ∧ w'.cell? ⟨bT, oT + el * 4 + 1, none⟩ = some (.int .i64 n2) ∧ w'.cell? ⟨bT, oT + el * 4 + 2, none⟩ = some (.int .i64 e2) ∧ w'.cell? ⟨bT, oT + el * 4 + 3, none⟩ = some (.slice va2 ps2.length vc2)) w') := hide_ (fun w' hb => hSt w' (.inl (HM3.out.later hb)) (Kp.later hb))
  have HSA : Hid (∀ w', Rz w' B gr gp gb (.slice (some ⟨bT, oT, none⟩) T.length cT) vL ((C ++ pstL k 1 C.length) ++ lfL ⟨k2, n2, e2, ps2⟩ (-1)) E → Kp B w3.drew w' → (fun w' => w'.cell? ⟨gr, 0, none⟩ = some (.slice (some ⟨bT, oT, none⟩) T.length cT) ∧ w'.cell? ⟨w.heap.size, 2, none⟩ = some (.int .i64 (el : Int)) ∧ w'.cell? ⟨bT, oT + el * 4, none⟩ = some (.int .i64 k2) ∧ w'.cell? ⟨bT, oT + el * 4 + 1, none⟩ = some (.int .i64 n2) ∧ w'.cell? ⟨bT, oT + el * 4 + 2, none⟩ = some (.int .i64 e2) ∧ w'.cell? ⟨bT, oT + el * 4 + 3, none⟩ = some (.slice va2 ps2.length vc2)) w') := hide_ (fun w' hr hk => hSt w' (.inr hr) ((Kp.later ((Below.refl w3.heap.size w3).drew)).trans hk))
  clear hSt htc HT3 HT HK1 HK3
  refine wp_region_last 10 (fun w' => w'.cell? ⟨gr, 0, none⟩ = some (.slice (some ⟨bT, oT, none⟩) T.length cT) ∧ w'.cell? ⟨w.heap.size, 2, none⟩ = some (.int .i64 (el : Int)) ∧ w'.cell? ⟨bT, oT + el * 4, none⟩ = some (.int .i64 k2) ∧ w'.cell? ⟨bT, oT + el * 4 + 1, none⟩ = some (.int .i64 n2) ∧ w'.cell? ⟨bT, oT + el * 4 + 2, none⟩ = some (.int .i64 e2) ∧ w'.cell? ⟨bT, oT + el * 4 + 3, none⟩ = some (.slice va2 ps2.length vc2)) (by kernel_rfl) (HSS.out _ ((Below.refl w3.heap.size w3).drew)) (fun hHeld => ?_)
  refine wpAnyF_take [10, 9] (by kernel_rfl) (i := 0) (v := ?vb1) rfl (by kernel_rfl) (by kernel_rfl) (by kernel_rfl) (fun _ _ _ h => h) (Or.inl ⟨by kernel_rfl, ?hyb1⟩) hHeld ?restb1
  case hyb1 => intro w' hSw; (try dsimp only at hSw); go_simp; try with_reducible rfl
  simp only [Act.put]
  refine wpAnyF_take [10, 9, 8, 7, 4, 3, 2] (by kernel_rfl) (i := 1) (v := ?vb2) rfl (by kernel_rfl) (by kernel_rfl) (by kernel_rfl) (fun _ _ _ h => h) (Or.inl ⟨by kernel_rfl, ?hyb2⟩) hHeld ?restb2
  case hyb2 => intro w' hSw; (try dsimp only at hSw); go_simp; try with_reducible rfl
  simp only [Act.put]
  refine wpAnyF_take [10, 9, 8, 7, 4, 3] (by kernel_rfl) (i := 2) (v := ?vb3) rfl (by kernel_rfl) (by kernel_rfl) (by kernel_rfl) (fun _ _ _ h => h) (Or.inl ⟨by kernel_rfl, ?hyb3⟩) hHeld ?restb3
  case hyb3 => intro w' hSw; (try dsimp only at hSw); go_simp; try with_reducible rfl
  simp only [Act.put]
  refine wpAnyF_take [10, 9, 8, 7, 4] (by kernel_rfl) (i := 3) (v := ?vb4) rfl (by kernel_rfl) (by kernel_rfl) (by kernel_rfl) (fun _ _ _ h => h) (Or.inl ⟨by kernel_rfl, ?hyb4⟩) hHeld ?restb4
  case hyb4 => intro w' hSw; (try dsimp only at hSw); go_simp; try with_reducible rfl
  simp only [Act.put]
  refine wpAnyF_take [10, 9, 8, 7] (by kernel_rfl) (i := 4) (v := ?vb5) rfl (by kernel_rfl) (by kernel_rfl) (by kernel_rfl) (fun _ _ _ h => h) (Or.inl ⟨by kernel_rfl, ?hyb5⟩) hHeld ?restb5
  case hyb5 => intro w' hSw; (try dsimp only at hSw); go_simp; try with_reducible rfl
  simp only [Act.put]
  refine wpAnyF_take [10, 9, 8, 7, 6] (by kernel_rfl) (i := 5) (v := ?vb6) rfl (by kernel_rfl) (by kernel_rfl) (by kernel_rfl) (fun _ _ _ h => h) (Or.inl ⟨by kernel_rfl, ?hyb6⟩) hHeld ?restb6
  case hyb6 => intro w' hSw; (try dsimp only at hSw); go_simp; try with_reducible rfl
  simp only [Act.put]
  refine wpAnyF_take [10, 9, 8, 7] (by kernel_rfl) (i := 6) (v := ?vb7) rfl (by kernel_rfl) (by kernel_rfl) (by kernel_rfl) (fun _ _ _ h => h) (Or.inl ⟨by kernel_rfl, ?hyb7⟩) hHeld ?restb7
  case hyb7 => intro w' hSw; (try dsimp only at hSw); go_simp; try with_reducible rfl
  simp only [Act.put]
  refine wpAnyF_take [10, 9, 8] (by kernel_rfl) (i := 7) (v := ?vb8) rfl (by kernel_rfl) (by kernel_rfl) (by kernel_rfl) (fun _ _ _ h => h) (Or.inl ⟨by kernel_rfl, ?hyb8⟩) hHeld ?restb8
  case hyb8 => intro w' hSw; (try dsimp only at hSw); go_simp; try with_reducible rfl
  simp only [Act.put]
  refine wpAnyF_take [10, 9] (by kernel_rfl) (i := 8) (v := ?vb9) rfl (by kernel_rfl) (by kernel_rfl) (by kernel_rfl) (fun _ _ _ h => h) (Or.inl ⟨by kernel_rfl, ?hyb9⟩) hHeld ?restb9
  case hyb9 => intro w' hSw; (try dsimp only at hSw); go_simp; try with_reducible rfl
  simp only [Act.put]
  refine wpAnyF_ready (rs := [9]) (by kernel_rfl) (by simp) ?_
  refine AllReadyF.cons rfl (fun K hK => ?_) AllReadyF.nil
  go_simp
  refine HLf.out.mono ?_
  rintro e w4 ⟨rfl, HM4, HK4⟩
  dsimp only
  refine hK.out _ _ (HSA.out _ HM4.out HK4.out) (fun hHeld => ?_)
  clear hK K
  refine wpAnyF_ready (rs := [10]) (by kernel_rfl) (by simp) ?_
  refine AllReadyF.last rfl (fun K hK => ?_)
  go_simp
  refine hK.out _ _ ?_
  clear hK K
  refine wpAnyF_done (by kernel_rfl) ?_ _
  clear HSS HSA HLf
  have HKb := hide_ (HKa.out.trans ((Kp.later ((Below.refl w3.heap.size w3).drew)).trans HK4.out))
  have KT4 := hide_ (((Kp.later ((Below.refl w3.heap.size w3).drew)).trans HK4.out).bT KT3.out)
  clear HKa KT3 HM3 HK4
  have hlen : (((C ++ pstL k 1 C.length) ++ lfL ⟨k2, n2, e2, ps2⟩ (-1))).length ≤ 900000002 := by rw [List.length_append, List.length_append]; omega
  cases hL : isLf ⟨k2, n2, e2, ps2⟩ with
  | true =>
    have HF := hide_ (HY.out hL)
    have HLy := hide_ (lay_any B gr gp gb _ vL _ E ⟨47, 0, -1, 0⟩ w4 (by omega) (fun _ => ⟨by decide, by decide⟩) HM4)
    have jf := HM4.out.fn
    clear HY HN
    go_wp2_with (go_at_call 23; refine HLy.out.mono ?_; rintro e w6 ⟨rfl, HM6, HK6⟩)
    go_end0
    exact ⟨rfl, hide_ (by rw [← HF.out]; exact HM6.out), hide_ (HKb.out.trans HK6.out)⟩
  | false =>
    have HF := hide_ (HN.out hL)
    have HLy := hide_ (lay_any B gr gp gb _ vL _ E ⟨45, sz, 0, (el : Int)⟩ w4.drew (by omega) (fun h => by cases h) (hide_ (HM4.out.later ((Below.refl _ _).drew))))
    have HSS : Hid (∀ w', Below w4.heap.size w4 w' → (fun w' => w'.cell? ⟨gr, 2, none⟩ = some (.func (.func 23) #[] #[.pointer (some ⟨gb, 0, none⟩)]) ∧ w'.cell? ⟨w.heap.size, 2, none⟩ = some (.int .i64 (el : Int))) w') := hide_ (fun w' hb => ⟨(HM4.out.later hb).fn, by have := (KT4.out.later hb).cell 2; simpa using this⟩)
    clear HY HN
    go_upto_region 3 with fail
    refine wp_region_last 8 (fun w' => w'.cell? ⟨gr, 2, none⟩ = some (.func (.func 23) #[] #[.pointer (some ⟨gb, 0, none⟩)]) ∧ w'.cell? ⟨w.heap.size, 2, none⟩ = some (.int .i64 (el : Int))) (by kernel_rfl) (HSS.out _ ((Below.refl w4.heap.size w4).drew)) (fun hHeld => ?_)
    refine wpAnyF_take [8, 3, 2, 1] (by kernel_rfl) (i := 0) (v := ?vc1) rfl (by kernel_rfl) (by kernel_rfl) (by kernel_rfl) (fun _ _ _ h => h) (Or.inl ⟨by kernel_rfl, ?hyc1⟩) hHeld ?restc1
    case hyc1 => intro w' hSw; (try dsimp only at hSw); go_simp; try with_reducible rfl
    simp only [Act.put]
    refine wpAnyF_take [8, 3, 2] (by kernel_rfl) (i := 1) (v := ?vc2) rfl (by kernel_rfl) (by kernel_rfl) (by kernel_rfl) (fun _ _ _ h => h) (Or.inl ⟨by kernel_rfl, ?hyc2⟩) hHeld ?restc2
    case hyc2 => intro w' hSw; (try dsimp only at hSw); go_simp; try with_reducible rfl
    simp only [Act.put]
    refine wpAnyF_take [8, 3] (by kernel_rfl) (i := 2) (v := ?vc3) rfl (by kernel_rfl) (by kernel_rfl) (by kernel_rfl) (fun _ _ _ h => h) (Or.inl ⟨by kernel_rfl, ?hyc3⟩) hHeld ?restc3
    case hyc3 => intro w' hSw; (try dsimp only at hSw); go_simp; try with_reducible rfl
    simp only [Act.put]
    refine wpAnyF_take [8] (by kernel_rfl) (i := 3) (v := ?vc4) rfl (by kernel_rfl) (by kernel_rfl) (by kernel_rfl) (fun _ _ _ h => h) (Or.inl ⟨by kernel_rfl, ?hyc4⟩) hHeld ?restc4
    case hyc4 => intro w' hSw; (try dsimp only at hSw); go_simp; try with_reducible rfl
    simp only [Act.put]
    refine wpAnyF_take [8, 7] (by kernel_rfl) (i := 4) (v := ?vc5) rfl (by kernel_rfl) (by kernel_rfl) (by kernel_rfl) (fun _ _ _ h => h) (Or.inl ⟨by kernel_rfl, ?hyc5⟩) hHeld ?restc5
    case hyc5 => intro w' hSw; (try dsimp only at hSw); go_simp; try with_reducible rfl
    simp only [Act.put]
    refine wpAnyF_take [8, 7, 6] (by kernel_rfl) (i := 5) (v := ?vc6) rfl (by kernel_rfl) (by kernel_rfl) (by kernel_rfl) (fun _ _ _ h => h) (Or.inl ⟨by kernel_rfl, ?hyc6⟩) hHeld ?restc6
    case hyc6 => intro w' hSw; (try dsimp only at hSw); go_simp; try with_reducible rfl
    simp only [Act.put]
    refine wpAnyF_take [8, 7] (by kernel_rfl) (i := 6) (v := ?vc7) rfl (by kernel_rfl) (by kernel_rfl) (by kernel_rfl) (fun _ _ _ h => h) (Or.inl ⟨by kernel_rfl, ?hyc7⟩) hHeld ?restc7
    case hyc7 => intro w' hSw; (try dsimp only at hSw); go_simp; try with_reducible rfl
    simp only [Act.put]
    refine wpAnyF_take [8] (by kernel_rfl) (i := 7) (v := ?vc8) rfl (by kernel_rfl) (by kernel_rfl) (by kernel_rfl) (fun _ _ _ h => h) (Or.inl ⟨by kernel_rfl, ?hyc8⟩) hHeld ?restc8
    case hyc8 => intro w' hSw; (try dsimp only at hSw); go_simp; try with_reducible rfl
    simp only [Act.put]
    refine wpAnyF_ready (rs := [8]) (by kernel_rfl) (by simp) ?_
    refine AllReadyF.last rfl (fun K hK => ?_)
    go_simp
    refine HLy.out.mono ?_
    rintro e w5 ⟨rfl, HM5, HK5⟩
    dsimp only
    refine hK.out _ _ ?_
    clear hK K
    refine wpAnyF_done (by kernel_rfl) ?_ _
    clear HSS HLy
    have HLz := hide_ (lay_any B gr gp gb _ vL _ E ⟨47, 0, -1, 0⟩ w5 (by rw [List.length_append]; simp only [List.length_singleton]; omega) (fun _ => ⟨by decide, by decide⟩) HM5)
    have jf := HM5.out.fn
    go_wp2_with (go_at_call 23; refine HLz.out.mono ?_; rintro e w6 ⟨rfl, HM6, HK6⟩)
    go_end0
    exact ⟨rfl, hide_ (by rw [← HF.out]; exact HM6.out), hide_ (HKb.out.trans ((Kp.later ((Below.refl w4.heap.size w4).drew)).trans (HK5.out.trans HK6.out)))⟩
theorem var_eq {C : List In} {t : Ty} {b : Int} (hb : (C.length : Int) = b + 1) : ((((C ++ [layI ⟨42, -1, 0, 0⟩ C.length]) ++ pstL t.k 2 (C ++ [layI ⟨42, -1, 0, 0⟩ C.length]).length) ++ [(⟨43, -1, 0, 0⟩ : In)]) ++ [(⟨46, 0, 0, t.e⟩ : In)]) ++ [⟨47, 0, -2 + (((((C ++ [layI ⟨42, -1, 0, 0⟩ C.length]) ++ pstL t.k 2 (C ++ [layI ⟨42, -1, 0, 0⟩ C.length]).length) ++ [(⟨43, -1, 0, 0⟩ : In)]) ++ [(⟨46, 0, 0, t.e⟩ : In)]).length : Int), 0⟩] = C ++ zrV t b := by
  unfold zrV pstL
  by_cases h5 : t.k = 5
  · rw [if_pos h5, if_pos h5]
    simp [layI, hopB, hb]
    omega
  · rw [if_neg h5, if_neg h5]
    simp [layI, hopB, hb]
    omega
set_option maxRecDepth 100000 in
set_option maxHeartbeats 4000000 in
theorem var_any (B gr gp gb : Nat) (vT vL : Value) (C : List In) (E : List Int) (k nn el : Int) (ps : List Pt) (va : Option Addr) (vc : Nat) (b : Int) (w : World) (hl : C.length ≤ 900000000) (hb : (C.length : Int) = b + 1) (h : Hid (Rz w B gr gp gb vT vL C E)) :
    Calls Try.prog 53 #[.pointer (some ⟨gr, 0, none⟩), .agg #[.int .i64 k, .int .i64 nn, .int .i64 el, .slice va ps.length vc]] w fun e w' => e = .returned (.tuple #[]) ∧ Hid (Rz w' B gr gp gb vT vL (C ++ zrV ⟨k, nn, el, ps⟩ b) E) ∧ Hid (Kp B w w') := by
  obtain ⟨w1, hw1⟩ : ∃ wx, wx = w.alloc (.cells #[.int .i64 k, .int .i64 nn, .int .i64 el, .slice va ps.length vc] 43) := ⟨_, rfl⟩
  have hB1 : Below w.heap.size w w1 := by rw [hw1]; exact below1 _ _
  have kt : Blk w1 w.heap.size 43 [.int .i64 k, .int .i64 nn, .int .i64 el, .slice va ps.length vc] := by rw [hw1]; exact Blk.newA w _ _
  have H1 := hide_ (h.out.later hB1)
  have HK1 : Hid (Kp B w w1) := hide_ (Kp.later hB1)
  have HL1 := hide_ (lay_any B gr gp gb vT vL C E ⟨42, -1, 0, 0⟩ w1 (by omega) (fun h => by cases h) H1)
  have HV := hide_ (var_eq (C := C) (t := ⟨k, nn, el, ps⟩) hb)
  simp only at HV
  have KT := hide_ kt
  have jf := H1.out.fn
  clear hB1 kt h H1
  go_enter Try.func53, Try.ntmps53
  go_upto_region 1 with fail
  rw [← hw1]
  clear hw1
  go_upto_region 2 with (go_at_call 23; refine HL1.out.mono ?_; rintro e w2 ⟨rfl, HM2, HK2⟩)
  clear HL1 jf
  generalize hC2 : C ++ [layI ⟨42, -1, 0, 0⟩ C.length] = C2 at *
  have hl2 : C2.length = C.length + 1 := by rw [← hC2]; simp
  clear hC2
  have KT2 := hide_ (HK2.out.bT KT.out)
  have HP := hide_ (past_any B gr gp gb vT vL C2 E 2 k nn el ps va vc w2 (by omega) ⟨by decide, by decide⟩ HM2)
  have j0 := KT2.out.cell 0; have j1 := KT2.out.cell 1; have j2 := KT2.out.cell 2; have j3 := KT2.out.cell 3
  simp at j0 j1 j2 j3
  go_upto_region 3 with (go_at_call 74; refine HP.out.mono ?_; rintro e w3 ⟨rfl, HM3, HK3⟩)
  clear HP j0 j1 j2 j3
  have hpl := pstL_len k 2 C2.length
  have KT3 := hide_ (HK3.out.bT KT2.out)
  have HKa := hide_ (HK1.out.trans (HK2.out.trans HK3.out))
  have HL3 := hide_ (lay_any B gr gp gb vT vL (C2 ++ pstL k 2 C2.length) E ⟨43, -1, 0, 0⟩ w3 (by rw [List.length_append]; omega) (fun h => by cases h) HM3)
  have jf := HM3.out.fn
  clear HM2 HK2 HM3 HK3 HK1 KT KT2
  go_upto_region 4 with (go_at_call 23; refine HL3.out.mono ?_; rintro e w4 ⟨rfl, HM4, HK4⟩)
  clear HL3 jf
  have KT4 := hide_ (HK4.out.bT KT3.out)
  have HKb := hide_ (HKa.out.trans HK4.out)
  have HM4' : Hid (Rz w4 B gr gp gb vT vL ((C2 ++ pstL k 2 C2.length) ++ [⟨43, -1, 0, 0⟩]) E) := HM4
  have HLy := hide_ (lay_any B gr gp gb vT vL ((C2 ++ pstL k 2 C2.length) ++ [⟨43, -1, 0, 0⟩]) E ⟨46, 0, 0, el⟩ w4.drew (by rw [List.length_append, List.length_append, List.length_singleton]; omega) (fun h => by cases h) (hide_ (HM4'.out.later ((Below.refl _ _).drew))))
  have HSS : Hid (∀ w', Below w4.heap.size w4 w' → (fun w' => w'.cell? ⟨gr, 2, none⟩ = some (.func (.func 23) #[] #[.pointer (some ⟨gb, 0, none⟩)]) ∧ w'.cell? ⟨w.heap.size, 2, none⟩ = some (.int .i64 el)) w') := hide_ (fun w' hb => ⟨(HM4.out.later hb).fn, by have := (KT4.out.later hb).cell 2; simpa using this⟩)
  clear HM4 HM4' HK4 KT3 KT4 HKa
  refine wp_region_last 7 (fun w' => w'.cell? ⟨gr, 2, none⟩ = some (.func (.func 23) #[] #[.pointer (some ⟨gb, 0, none⟩)]) ∧ w'.cell? ⟨w.heap.size, 2, none⟩ = some (.int .i64 el)) (by kernel_rfl) (HSS.out _ ((Below.refl w4.heap.size w4).drew)) (fun hHeld => ?_)
  refine wpAnyF_take [7, 3, 2, 1] (by kernel_rfl) (i := 0) (v := ?vd1) rfl (by kernel_rfl) (by kernel_rfl) (by kernel_rfl) (fun _ _ _ h => h) (Or.inl ⟨by kernel_rfl, ?hyd1⟩) hHeld ?restd1
  case hyd1 => intro w' hSw; (try dsimp only at hSw); go_simp; try with_reducible rfl
  simp only [Act.put]
  refine wpAnyF_take [7, 3, 2] (by kernel_rfl) (i := 1) (v := ?vd2) rfl (by kernel_rfl) (by kernel_rfl) (by kernel_rfl) (fun _ _ _ h => h) (Or.inl ⟨by kernel_rfl, ?hyd2⟩) hHeld ?restd2
  case hyd2 => intro w' hSw; (try dsimp only at hSw); go_simp; try with_reducible rfl
  simp only [Act.put]
  refine wpAnyF_take [7, 3] (by kernel_rfl) (i := 2) (v := ?vd3) rfl (by kernel_rfl) (by kernel_rfl) (by kernel_rfl) (fun _ _ _ h => h) (Or.inl ⟨by kernel_rfl, ?hyd3⟩) hHeld ?restd3
  case hyd3 => intro w' hSw; (try dsimp only at hSw); go_simp; try with_reducible rfl
  simp only [Act.put]
  refine wpAnyF_take [7] (by kernel_rfl) (i := 3) (v := ?vd4) rfl (by kernel_rfl) (by kernel_rfl) (by kernel_rfl) (fun _ _ _ h => h) (Or.inl ⟨by kernel_rfl, ?hyd4⟩) hHeld ?restd4
  case hyd4 => intro w' hSw; (try dsimp only at hSw); go_simp; try with_reducible rfl
  simp only [Act.put]
  refine wpAnyF_take [7, 6, 5] (by kernel_rfl) (i := 4) (v := ?vd5) rfl (by kernel_rfl) (by kernel_rfl) (by kernel_rfl) (fun _ _ _ h => h) (Or.inl ⟨by kernel_rfl, ?hyd5⟩) hHeld ?restd5
  case hyd5 => intro w' hSw; (try dsimp only at hSw); go_simp; try with_reducible rfl
  simp only [Act.put]
  refine wpAnyF_take [7, 6] (by kernel_rfl) (i := 5) (v := ?vd6) rfl (by kernel_rfl) (by kernel_rfl) (by kernel_rfl) (fun _ _ _ h => h) (Or.inl ⟨by kernel_rfl, ?hyd6⟩) hHeld ?restd6
  case hyd6 => intro w' hSw; (try dsimp only at hSw); go_simp; try with_reducible rfl
  simp only [Act.put]
  refine wpAnyF_take [7] (by kernel_rfl) (i := 6) (v := ?vd7) rfl (by kernel_rfl) (by kernel_rfl) (by kernel_rfl) (fun _ _ _ h => h) (Or.inl ⟨by kernel_rfl, ?hyd7⟩) hHeld ?restd7
  case hyd7 => intro w' hSw; (try dsimp only at hSw); go_simp; try with_reducible rfl
  simp only [Act.put]
  refine wpAnyF_ready (rs := [7]) (by kernel_rfl) (by simp) ?_
  refine AllReadyF.last rfl (fun K hK => ?_)
  go_simp
  refine HLy.out.mono ?_
  rintro e w5 ⟨rfl, HM5, HK5⟩
  dsimp only
  refine hK.out _ _ ?_
  clear hK K
  refine wpAnyF_done (by kernel_rfl) ?_ _
  clear HSS HLy
  have HM5' : Hid (Rz w5 B gr gp gb vT vL (((C2 ++ pstL k 2 C2.length) ++ [⟨43, -1, 0, 0⟩]) ++ [⟨46, 0, 0, el⟩]) E) := HM5
  have HLz := hide_ (lay_any B gr gp gb vT vL _ E ⟨47, 0, -2, 0⟩ w5 (by rw [List.length_append, List.length_append, List.length_append, List.length_singleton, List.length_singleton]; omega) (fun _ => ⟨by decide, by decide⟩) HM5')
  have jf := HM5.out.fn
  clear HM5 HM5'
  go_wp2_with (go_at_call 23; refine HLz.out.mono ?_; rintro e w6 ⟨rfl, HM6, HK6⟩)
  go_end0
  exact ⟨rfl, hide_ (by rw [← HV.out]; exact HM6.out), hide_ (HKb.out.trans ((Kp.later ((Below.refl w4.heap.size w4).drew)).trans (HK5.out.trans HK6.out)))⟩
set_option maxRecDepth 100000 in
set_option maxHeartbeats 4000000 in
theorem items_any (B gr gp gb : Nat) (aT : Option Addr) (cT : Nat) (T : List Ty) (vL : Value) (C : List In) (E : List Int) (k nn : Int) (el : Nat) (ps : List Pt) (va : Option Addr) (vc : Nat) (t2 : Ty) (x : Ex) (b : Int) (w : World) (hl : C.length ≤ 900000000) (hb : (C.length : Int) = b + 1) (hn : T[el]? = some t2) (HT : Hid (Tc B w aT T)) (h : Hid (Rz w B gr gp gb (.slice aT T.length cT) vL C E)) :
    Calls Try.prog 26 #[.pointer (some ⟨gr, 0, none⟩), .agg #[.int .i64 k, .int .i64 nn, .int .i64 (el : Int), .slice va ps.length vc], slv (slotP x 0)] w fun e w' => e = .returned (.tuple #[]) ∧ Hid (Rz w' B gr gp gb (.slice aT T.length cT) vL (C ++ (if x.f then zrF T ⟨k, nn, (el : Int), ps⟩ x.l b else zrV ⟨k, nn, (el : Int), ps⟩ b)) E) ∧ Hid (Kp B w w') := by
  have hbase := h.out.base
  obtain ⟨xf, xl, xm, xd⟩ := x
  cases xf with
  | true =>
    have hB2 := below2 w (.cells #[.int .i64 k, .int .i64 nn, .int .i64 (el : Int), .slice va ps.length vc] 43) (.cells #[.int .i64 0, .bool false, .int .i64 xl] 77)
    obtain ⟨kt, ks⟩ := blk2 w #[.int .i64 k, .int .i64 nn, .int .i64 (el : Int), .slice va ps.length vc] #[.int .i64 0, .bool false, .int .i64 xl] 43 77
    obtain ⟨w1, hw1⟩ : ∃ wx, wx = (w.alloc (.cells #[.int .i64 k, .int .i64 nn, .int .i64 (el : Int), .slice va ps.length vc] 43)).alloc (.cells #[.int .i64 0, .bool false, .int .i64 xl] 77) := ⟨_, rfl⟩
    rw [← hw1] at hB2 kt ks
    have HF := hide_ (fixed_any B gr gp gb aT cT T vL C E k nn el ps va vc t2 xl b w1 hl hb hn (hide_ (HT.out.kp hbase (Kp.later hB2))) (hide_ (h.out.later hB2)))
    have HK1 : Hid (Kp B w w1) := hide_ (Kp.later hB2)
    have j0 := kt.cell 0; have j1 := kt.cell 1; have j2 := kt.cell 2; have j3 := kt.cell 3
    have s0 := ks.cell 0; have s1 := ks.cell 1; have s2 := ks.cell 2
    simp at j0 j1 j2 j3 s0 s1 s2
    clear hB2 kt ks HT h
    have e0 : slv (slotP ⟨true, xl, xm, xd⟩ 0) = .agg #[.int .i64 0, .bool false, .int .i64 xl] := rfl
    rw [e0]
    go_enter Try.func26, Try.ntmps26
    go_upto_region 1 with fail
    rw [← hw1]
    clear hw1
    go_wp2_with (go_at_call 54; refine HF.out.mono ?_; rintro e w5 ⟨rfl, HM5, HK5⟩)
    go_end0
    exact ⟨rfl, HM5, hide_ (HK1.out.trans HK5.out)⟩
  | false =>
    have hB2 := below2 w (.cells #[.int .i64 k, .int .i64 nn, .int .i64 (el : Int), .slice va ps.length vc] 43) (.cells #[.int .i64 0, .bool true, .int .i64 4] 77)
    obtain ⟨kt, ks⟩ := blk2 w #[.int .i64 k, .int .i64 nn, .int .i64 (el : Int), .slice va ps.length vc] #[.int .i64 0, .bool true, .int .i64 4] 43 77
    obtain ⟨w1, hw1⟩ : ∃ wx, wx = (w.alloc (.cells #[.int .i64 k, .int .i64 nn, .int .i64 (el : Int), .slice va ps.length vc] 43)).alloc (.cells #[.int .i64 0, .bool true, .int .i64 4] 77) := ⟨_, rfl⟩
    rw [← hw1] at hB2 kt ks
    have HF := hide_ (var_any B gr gp gb _ vL C E k nn (el : Int) ps va vc b w1 hl hb (hide_ (h.out.later hB2)))
    have HK1 : Hid (Kp B w w1) := hide_ (Kp.later hB2)
    have j0 := kt.cell 0; have j1 := kt.cell 1; have j2 := kt.cell 2; have j3 := kt.cell 3
    have s0 := ks.cell 0; have s1 := ks.cell 1; have s2 := ks.cell 2
    simp at j0 j1 j2 j3 s0 s1 s2
    clear hB2 kt ks HT h
    have e0 : slv (slotP ⟨false, xl, xm, xd⟩ 0) = .agg #[.int .i64 0, .bool true, .int .i64 4] := rfl
    rw [e0]
    go_enter Try.func26, Try.ntmps26
    go_upto_region 1 with fail
    rw [← hw1]
    clear hw1
    go_wp2_with (go_at_call 53; refine HF.out.mono ?_; rintro e w5 ⟨rfl, HM5, HK5⟩)
    go_end0
    exact ⟨rfl, HM5, hide_ (HK1.out.trans HK5.out)⟩
end Go.Proofs.Ytncndgfaalojpaa
