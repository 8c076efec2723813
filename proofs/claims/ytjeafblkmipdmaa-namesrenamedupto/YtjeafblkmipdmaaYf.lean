/- lookAtNodes. -/
import Derived.Test.YtjeafblkmipdmaaYe
namespace Go.Proofs.Ytjeafblkmipdmaa
open Go.RowKit
open Go.Maps (Keyed)
set_option linter.unusedVariables false

theorem rowPt : (83 : TypeId) < Try.prog.types.size := of_decide_eq_true (by kernel_rfl)
theorem widePt : (match Try.prog.underlying 83 with | some (.array _ _) | some (.struct _) => true | _ => false) = true := by kernel_rfl
theorem laidPt : laidOutB Try.prog = true := by kernel_rfl
theorem deepPt : Try.prog.keyTypeAt 3 83 = true := by kernel_rfl
set_option maxRecDepth 100000 in
theorem kPt : Keyed Try.prog 83 := Keyed.of_law (deep_law_laid laidPt (m := 3) (by omega) rowPt deepPt widePt)
def ptv (q : Pt) : Value := .agg #[.int .i64 q.1, .string q.2.1, .int .i64 q.2.2]
def PtOkY (q : Pt) : Prop := (Lit.int .i64 q.1).wf = true ∧ q.2.1.size ≤ maxLen ∧ (Lit.int .i64 q.2.2).wf = true
theorem ptKeyType : Try.prog.keyType 83 = true := by kernel_rfl
theorem ptCells : Try.prog.cellsOf 83 = 3 := by kernel_rfl
theorem ptCellsI : Try.prog.cellsOf 3 = 1 := by kernel_rfl
theorem ptCellsS : Try.prog.cellsOf 9 = 1 := by kernel_rfl
theorem pt_key (q : Pt) (h : PtOkY q) : ∃ l, keyOf Try.prog 83 (ptv q) = some l := by
  obtain ⟨d, hd⟩ : ∃ d, Try.prog.types.size + 1 = d + 2 := ⟨Try.prog.types.size - 1, by have h : 83 < Try.prog.types.size := rowPt; omega⟩
  have hf : (ptv q).formed Try.prog 83 = true := by simp [Value.formed, Try.underlying83, ptCells, ptv]
  unfold keyOf
  rw [Try.underlying83]
  simp only [ptKeyType, hf, Bool.and_self, if_true, hd]
  simp [Program.keyLits, Try.underlying83, Try.underlying3, Try.underlying9, ptCells, ptCellsI, ptCellsS, ptv, Value.cells, h.1, h.2.1, h.2.2]
theorem ptv_inj {q r : Pt} (h : ptv q = ptv r) : q = r := by
  obtain ⟨a, b, c⟩ := q
  obtain ⟨x, y, z⟩ := r
  simp [ptv] at h
  obtain ⟨rfl, rfl, rfl⟩ := h
  rfl
/-- A map whose keys are these parts lies here. -/
def MpP (w : World) (b n : Nat) (met : List Pt) : Prop :=
  ∃ D : DataW Unit, w.ownsMap Try.prog 83 (plainElem Try.prog 3) b n D ∧ ∀ q l, PtOkY q → keyOf Try.prog 83 (ptv q) = some l → Go.Maps.has D l = hasP met q
section
variable {w w' : World} {b n : Nat} {met : List Pt}
theorem MpP.lt (h : MpP w b n met) : b < w.heap.size := h.elim fun D h => h.1.lt
theorem MpP.upd {S : Nat → Prop} (h : MpP w b n met) (hu : Upd S w w') (hs : ¬ S b) : MpP w' b n met := by
  obtain ⟨D, h1, h2⟩ := h
  exact ⟨D, ownsMap_upd h1 hu hs, h2⟩
theorem MpP.later (h : MpP w b n met) (hB : Below w.heap.size w w') : MpP w' b n met := h.upd (Upd.of_below (S := fun _ => False) hB) (fun h => h)
theorem MpP.ne {g : Nat} {t : TypeId} {xs : List Value} (h : MpP w b n met) (k : Blk w g t xs) : ¬ g = b := by
  rintro rfl
  obtain ⟨D, ⟨es, cl, hb, _⟩, _⟩ := h
  unfold Blk at k
  rw [hb] at k
  cases k
theorem MpP.mk (w : World) : MpP (w.alloc (.map #[] 0)) w.heap.size 0 [] := ⟨.map [], World.ownsMap_made _ _ _ _, fun q l _ _ => rfl⟩
theorem MpP.look_ok (h : MpP w b n met) (q : Pt) (hq : PtOkY q) : ∃ c : Int, (Instr.lookup 81 (.map (some b)) (ptv q) true).run Try.prog w = .ok (.tuple #[.int .i64 c, .bool (hasP met q)]) w := by
  obtain ⟨D, h1, h2⟩ := h
  obtain ⟨l, hl⟩ := pt_key q hq
  obtain ⟨v, ps, r, e⟩ := h1.look_ok (t := 81) kPt Try.underlying81 (zInt w) (plainElem_int Try.underlying3 (by decide)) hl
  obtain ⟨c, rfl, e, _⟩ := plainElem_int_inv Try.underlying3 e
  rw [h2 q l hq hl] at r
  exact ⟨c, r⟩
theorem MpP.store (h : MpP w b n met) (q : Pt) (hq : PtOkY q) (i : Nat) (hi : i ≤ 10000000000000) (hn : n ≤ 10000000000000) :
    ∃ w', (Instr.mapUpdate 81 (.map (some b)) (ptv q) (.int .i64 (i : Int))).run Try.prog w = .ok () w' ∧ MpP w' b (n + 1) (met ++ [q]) ∧ Upd (fun k => k = b) w w' := by
  obtain ⟨D, h1, h2⟩ := h
  obtain ⟨l, hl⟩ := pt_key q hq
  obtain ⟨w', r, o, g⟩ := h1.update (t := 81) kPt Try.underlying81 (by unfold maxLen; omega) hl (plainElem_int Try.underlying3 (wfN (i := (i : Int)) (by omega)))
  refine ⟨w', r, ⟨_, o, fun t m ht hm => ?_⟩, (Upd.refl _ w).grown g (fun k hk => by simp only [Option.some.injEq] at hk; exact .inl hk.symm)⟩
  have hM := h1.isMap
  rw [hasP_snoc]
  by_cases e : m = l
  · subst e
    have := ptv_inj (kPt.inj hl hm)
    subst this
    rw [Go.Maps.has_put_same hM (kPt.key hl)]
    simp
  · rw [Go.Maps.has_put_other e, h2 t m ht hm]
    have : ¬ q = t := fun e' => by subst e'; rw [hl] at hm; simp only [Option.some.injEq] at hm; exact e hm.symm
    simp [this]
end
/-- What a node that Check takes is like. -/
def NodeOk1 (x : Nd) : Prop := x.label.size ≤ 32 ∧ x.name.size ≤ 32 ∧ 0 ≤ x.tag ∧ x.tag ≤ 2147483647
theorem nameOk_le {s : ByteArray} {b : Bool} (h : nameOk s b = true) : s.size ≤ 32 := by
  unfold nameOk at h
  cases b with
  | true => simp only [cond_true] at h; unfold isName at h; exact (of_decide_eq_true h).2.1
  | false => simp only [cond_false] at h; have := of_decide_eq_true h; omega
theorem ndE_ok {x : Nd} {of : Int} {dp : Nat} (h : ndE x of dp = 0) : NodeOk1 x := by
  unfold ndE nodeE at h
  by_cases h1 : 16 < dp
  · rw [if_pos h1] at h; omega
  rw [if_neg h1] at h
  by_cases h2 : (x.k = 8 ∨ x.k = 7) ∧ 64 < x.kids
  · rw [if_pos h2] at h; omega
  rw [if_neg h2] at h
  by_cases h3 : kindOk x.k x.n x.kids = false ∨ nameOk x.name (decide (x.k = 9)) = false ∨ nameOk x.label (decide (of = 8)) = false
  · rw [if_pos h3] at h; omega
  rw [if_neg h3] at h
  have h4 : nameOk x.name (decide (x.k = 9)) = true := by cases e : nameOk x.name (decide (x.k = 9)) with | true => rfl | false => exact absurd (.inr (.inl e)) h3
  have h5 : nameOk x.label (decide (of = 8)) = true := by cases e : nameOk x.label (decide (of = 8)) with | true => rfl | false => exact absurd (.inr (.inr e)) h3
  refine ⟨nameOk_le h5, nameOk_le h4, ?_⟩
  by_cases h6 : x.tag ≠ 0 ∧ (of ≠ 7 ∨ numB x.tag = false)
  · rw [if_pos h6] at h; omega
  · by_cases h7 : x.tag = 0
    · omega
    · have h8 : numB x.tag = true := by cases e : numB x.tag with | true => rfl | false => exact absurd ⟨h7, .inr e⟩ h6
      unfold numB at h8
      exact of_decide_eq_true h8
theorem retF {fn : Func} {p : Tmp} (h : fn.results = #[.cell p 28]) {R : Ending → World → Prop} {tmps : Array Value} {g : Nat} {w : World} {a b : Int} (hp : tmps.getD p undef = .pointer (some ⟨g, 0, none⟩)) (hK : Blk w g 28 [.int .i64 a, .int .i64 b]) (hR : R (.returned (.agg #[.int .i64 a, .int .i64 b])) w) :
    bodyPost Try.prog fn R Exit.ret ⟨tmps, []⟩ w :=
  bodyPost_ret (results_cell_row h _ _ _ _ #[.int .i64 a, .int .i64 b] _ _ hp hK Try.underlying28 rfl (by show _ = some 2; kernel_rfl)) rfl hR
theorem wr2 {w : World} {g : Nat} {t : TypeId} {x0 x1 : Value} (h : Blk w g t [x0, x1]) (y0 y1 : Value) :
    Blk ((w.setCell ⟨g, 0, none⟩ y0).setCell ⟨g, 1, none⟩ y1) g t [y0, y1] := by
  have := (h.set 0 y0).set 1 y1
  simpa using this
theorem bldF (a b : Int) (w : World) : (Instr.build 28 #[(0, .int .i64 a), (1, .int .i64 b)]).run Try.prog w = .ok (.agg #[.int .i64 a, .int .i64 b]) w := by kernel_rfl
theorem bldF0 (w : World) : (Instr.build 28 #[]).run Try.prog w = .ok (.agg #[.int .i64 0, .int .i64 0]) w := by kernel_rfl
theorem bldPt (a : Int) (s : ByteArray) (b : Int) (w : World) : (Instr.build 83 #[(0, .int .i64 a), (1, .string s), (2, .int .i64 b)]).run Try.prog w = .ok (.agg #[.int .i64 a, .string s, .int .i64 b]) w := by kernel_rfl
theorem below_set2 {B : Nat} {w w' : World} (h : Below B w w') (b : Nat) (u v : Value) (hb : B ≤ b) : Below B w ((w'.setCell ⟨b, 0, none⟩ u).setCell ⟨b, 1, none⟩ v) := (h.setCell hb _).setCell hb _
set_option maxRecDepth 100000 in
set_option maxHeartbeats 8000000 in
theorem nodes1_any (va : Option Addr) (vc : Nat) (N : List Nd) (D : List Df) (bn : Nat) (w : World) (hN : N.length ≤ 1954687338267) (hr : Hid (NRow w va N)) (hc : Hid (ctN N 1)) (hx : Hid (∀ x ∈ N, NodeOk1 x)) (hM : Hid (MpS w bn 256 (numN D))) :
    Calls Try.prog 25 #[.slice va N.length vc, .map (some bn)] w fun e w' => e = .returned (.agg #[.int .i64 (lkT D N).1, .int .i64 (lkT D N).2]) ∧ Hid (Below w.heap.size w w') := by
  obtain ⟨P, hP⟩ : ∃ P, parP N = P := ⟨_, rfl⟩
  obtain ⟨R, hR⟩ : ∃ R, lkT D N = R := ⟨_, rfl⟩
  have HR : Hid (lkN D (N.drop 0) (P.drop 0) [] = R) := hide_ (by rw [← hR, ← hP]; rfl)
  have HPo : Hid (ParOk N P) := hide_ (by rw [← hP]; exact parP_ok hc.out)
  have HCp := parents_any va vc N
  rw [hP] at HCp
  have HCp := hide_ HCp
  rw [hR]
  clear hR hP
  have hmm := @run_makeMap Try.prog
  obtain ⟨w1, hw1⟩ : ∃ w1, w1 = w.alloc (.cells #[.int .i64 0, .int .i64 0] 28) := ⟨_, rfl⟩
  have HB1 : Hid (Below w.heap.size w w1) := by rw [hw1]; exact (Below.refl _ _).alloc (Nat.le_refl _) _
  have HF1 : Hid (Blk w1 w.heap.size 28 [.int .i64 0, .int .i64 0]) := by rw [hw1]; exact Blk.newA w #[.int .i64 0, .int .i64 0] 28
  have HN1 := hide_ (hr.out.later HB1.out)
  go_enter Try.func25, Try.ntmps25
  go_upto_region 1 with fail
  rw [← hw1]
  clear hw1
  go_upto_region 2 with (go_at_call 36; refine (HCp.out w1 hN HN1 hc).mono ?_; rintro e w2 ⟨gp, rfl, hgp, HKp, HB2⟩)
  have HB2' := hide_ (below_to HB1.out HB2.out)
  have HF2 := hide_ (HF1.out.later HB2.out)
  obtain ⟨w3, hw3⟩ : ∃ w3, w3 = w2.alloc (.map #[] 0) := ⟨_, rfl⟩
  have hB3 : Below w2.heap.size w2 w3 := by rw [hw3]; exact (Below.refl _ _).alloc (Nat.le_refl _) _
  have HB3 := hide_ (below_to HB2'.out hB3)
  have HF3 := hide_ (HF2.out.later hB3)
  have HK3 := hide_ (HKp.out.later hB3)
  have HM3 : Hid (MpP w3 w2.heap.size 0 []) := by rw [hw3]; exact MpP.mk w2
  have hw22 : w.heap.size ≤ w2.heap.size := HB2'.out.size
  go_upto_region 3 with fail
  rw [← hw3]
  clear hw3 hmm hB3 HB2 HB2' HF2 HKp HF1 HB1 HN1 HCp
  go_wp2_with fail
  go_loopw [19] (fun x19 wr => ∃ (i : Nat) (met : List Pt), i ≤ N.length ∧ x19 = .int .i64 (i : Int) ∧ Hid (lkN D (N.drop i) (P.drop i) met = R) ∧ Hid (MpP wr w2.heap.size i met) ∧ Hid (Blk wr w.heap.size 28 [.int .i64 0, .int .i64 0]) ∧ Hid (Blk wr gp 3 (cellsL .i64 P)) ∧ Hid (Below w.heap.size w wr)) (fun x19 _ => N.length - (intOf x19).toNat)
  case atStart => exact ⟨0, [], Nat.zero_le _, rfl, HR, HM3, HF3, HK3, HB3⟩
  case round =>
    obtain ⟨i, met, hi, rfl, HL, HM, HF, HK, HB⟩ := hrel
    generalize wr = wq at *
    clear HM3 HF3 HK3 HB3 HR
    by_cases hlt : i < N.length
    · have hlt' : (i : Int) < N.length := by omega
      obtain ⟨b, o, rfl, hb, hcl⟩ := (hr.out.later HB.out).open (by omega)
      have hxi : N[i]? = some (N[i]'hlt) := List.getElem?_eq_getElem hlt
      have hcx := hcl i _ hxi
      have hdr : N.drop i = N[i]'hlt :: N.drop (i + 1) := List.drop_eq_getElem_cons hlt
      have hpl : i < P.length := by rw [HPo.out.len]; exact hlt
      have hdp : P.drop i = P[i]'hpl :: P.drop (i + 1) := List.drop_eq_getElem_cons hpl
      have hok := hx.out _ (List.getElem_mem hlt)
      have hpi : P.getD i 0 = P[i]'hpl := by simp [List.getD, hpl]
      have hpb : -1 ≤ P[i]'hpl ∧ P[i]'hpl ≤ 1954687338267 := by
        rw [← hpi]
        rcases Nat.eq_zero_or_pos i with rfl | h0
        · rw [HPo.out.first (by omega)]; omega
        · have := HPo.out.later i h0 hlt
          omega
      have cP := HK.out.cell i
      rw [cellsL_at _ _ i hpl, hpi] at cP
      clear hpi
      generalize N[i]'hlt = x at *
      generalize P[i]'hpl = p at *
      rw [hdr, hdp, lkN] at HL
      have i0 := hcx 0 (by decide); have i1 := hcx 1 (by decide); have i2 := hcx 2 (by decide); have i3 := hcx 3 (by decide); have i4 := hcx 4 (by decide); have i5 := hcx 5 (by decide); have i6 := hcx 6 (by decide)
      simp [ndc] at i0 i1 i2 i3 i4 i5 i6
      clear hcl hxi hcx hdr hdp
      have kx := Blk.newA wq #[.int .i64 x.k, .int .i64 x.n, .string x.name, .string x.label, .int .i64 x.tag, .int .i64 x.kids, .int .i64 x.a] 38
      have hBx : Below wq.heap.size wq (wq.alloc (.cells #[.int .i64 x.k, .int .i64 x.n, .string x.name, .string x.label, .int .i64 x.tag, .int .i64 x.kids, .int .i64 x.a] 38)) := (Below.refl _ _).alloc (Nat.le_refl _) _
      obtain ⟨wx, hwx⟩ : ∃ wx, wx = wq.alloc (.cells #[.int .i64 x.k, .int .i64 x.n, .string x.name, .string x.label, .int .i64 x.tag, .int .i64 x.kids, .int .i64 x.a] 38) := ⟨_, rfl⟩
      rw [← hwx] at kx hBx
      have HMx := hide_ (HM.out.later hBx)
      have HFx := hide_ (HF.out.later hBx)
      have HKx := hide_ (HK.out.later hBx)
      have HBx := hide_ (below_to HB.out hBx)
      have KX := hide_ kx
      have hgpq : gp < wq.heap.size := HK.out.lt
      have hbmq : w2.heap.size < wq.heap.size := HM.out.lt
      have cPx : wx.cell? ⟨gp, i, none⟩ = some (.int .i64 p) := (hBx.cell (p := ⟨gp, i, none⟩) hgpq).trans cP
      have j3 := kx.cell 3; have j4 := kx.cell 4
      simp at j3 j4
      have hxs : wx.heap.size = wq.heap.size + 1 := by rw [hwx]; simp
      have hq1 : wq.heap.size < wx.heap.size := by omega
      have hq2 : gp < wx.heap.size := by omega
      have HXS := hide_ hxs
      clear kx hBx HM HF HK cP hxs
      go_upto_region 6 with fail
      rw [← hwx]
      clear hwx i0 i1 i2 i3 i4 i5 i6
      have hb3 := bldPt p x.label x.tag
      go_wp2_with fail
      go_region
      obtain ⟨wy, hwy⟩ : ∃ wy, wy = (wx.alloc (.cells #[.int .i64 p, .string x.label, .int .i64 x.tag] 83)).drew := ⟨_, rfl⟩
      have hBy : Below wx.heap.size wx wy := by rw [hwy]; exact ((Below.refl _ _).alloc (Nat.le_refl _) _).drew
      have KY : Hid (Blk wy wx.heap.size 83 [.int .i64 p, .string x.label, .int .i64 x.tag]) := hide_ (by rw [hwy]; exact Blk.newA wx #[.int .i64 p, .string x.label, .int .i64 x.tag] 83)
      rw [← hwy]
      clear hwy
      have HMy := hide_ (HMx.out.later hBy)
      have HFy := hide_ (HFx.out.later hBy)
      have HKy := hide_ (HKx.out.later hBy)
      have HBy := hide_ (below_to HBx.out hBy)
      have KXy := hide_ (KX.out.later hBy)
      have HSy := hide_ (hM.out.later HBy.out)
      clear HMx HFx HKx HBx KX hBy cPx j3 j4
      have hq : PtOkY (p, x.label, x.tag) := ⟨wfN (by omega), by have := hok.1; unfold maxLen; exact Nat.le_trans this (by decide), wfN (i := x.tag) (by have := hok.2.2; omega)⟩
      obtain ⟨c, hlk⟩ := HMy.out.look_ok (p, x.label, x.tag) hq
      simp only [ptv] at hlk
      have d0 := KY.out.cell 0; have d1 := KY.out.cell 1; have d2 := KY.out.cell 2
      simp at d0 d1 d2
      have e0 := KXy.out.cell 0; have e2 := KXy.out.cell 2; have e6 := KXy.out.cell 6
      simp at e0 e2 e6
      cases hh : hasP met (p, x.label, x.tag) with
      | true =>
        rw [hh] at hlk
        have HV : Hid (R = (80, x.a)) := hide_ (by have h := HL.out; rw [if_pos hh] at h; exact h.symm)
        have hb8 := bldF 80 x.a
        have c0 := HFy.out.cell 0; have c1 := HFy.out.cell 1
        have f0 := HFy.out.frozen 0; have f1 := HFy.out.frozen 1
        simp at c0 c1
        go_wp2
        exact retF (a := 80) (b := x.a) rfl rfl (wr2 HFy.out _ _) ⟨by rw [HV.out], hide_ (below_set2 HBy.out _ _ _ (Nat.le_refl _))⟩
      | false =>
        rw [hh] at hlk
        have HL1 : Hid ((if x.k = 9 ∧ numN D x.name = none then (81, x.a) else lkN D (N.drop (i + 1)) (P.drop (i + 1)) (met ++ [(p, x.label, x.tag)])) = R) := hide_ (by have h := HL.out; rw [if_neg (by rw [hh]; decide)] at h; exact h)
        obtain ⟨wz, rz, mz, uz⟩ := HMy.out.store (p, x.label, x.tag) hq i (by omega) (by omega)
        simp only [ptv] at rz
        have HMz := hide_ mz
        have HFz := hide_ (HFy.out.upd uz (HMy.out.ne HFy.out))
        have HKz := hide_ (HKy.out.upd uz (HMy.out.ne HKy.out))
        have KXz := hide_ (KXy.out.upd uz (HMy.out.ne KXy.out))
        have HBz := hide_ (HBy.out.trans (uz.below w.heap.size HBy.out.size (fun k hk => by omega)))
        have HSz := hide_ (hM.out.later HBz.out)
        clear mz uz HMy HFy HKy KXy HSy HBy hh HL
        have g0 := KXz.out.cell 0; have g2 := KXz.out.cell 2; have g6 := KXz.out.cell 6
        simp at g0 g2 g6
        by_cases h9 : x.k = 9
        · have hne : (x.k != 9) = false := by simp [h9]
          have hl2 := HSz.out.look_ok x.name (by have := hok.2.1; unfold maxLen; exact Nat.le_trans this (by decide))
          cases hf : numN D x.name with
          | none =>
            rw [hf] at hl2
            simp only [Option.getD_none, Option.isSome_none] at hl2
            have HV : Hid (R = (81, x.a)) := hide_ (by have h := HL1.out; rw [if_pos ⟨h9, hf⟩] at h; exact h.symm)
            have hb8 := bldF 81 x.a
            have c0 := HFz.out.cell 0; have c1 := HFz.out.cell 1
            have f0 := HFz.out.frozen 0; have f1 := HFz.out.frozen 1
            simp at c0 c1
            clear hf
            go_wp2
            exact retF (a := 81) (b := x.a) rfl rfl (wr2 HFz.out _ _) ⟨by rw [HV.out], hide_ (below_set2 HBz.out _ _ _ (Nat.le_refl _))⟩
          | some j =>
            rw [hf] at hl2
            simp only [Option.getD_some, Option.isSome_some] at hl2
            have HL2 : Hid (lkN D (N.drop (i + 1)) (P.drop (i + 1)) (met ++ [(p, x.label, x.tag)]) = R) := hide_ (by have h := HL1.out; rw [if_neg (by rw [hf]; simp)] at h; exact h)
            clear hf
            go_wp2_with fail
            go_roundw
            case rel => exact ⟨i + 1, _, by omega, by go_num, HL2, HMz, HFz, HKz, HBz⟩
            case measure => simp [intOf]; omega
        · have hne : (x.k != 9) = true := by simpa using h9
          have HL2 : Hid (lkN D (N.drop (i + 1)) (P.drop (i + 1)) (met ++ [(p, x.label, x.tag)]) = R) := hide_ (by have h := HL1.out; rw [if_neg (fun h => h9 h.1)] at h; exact h)
          go_wp2_with fail
          go_roundw
          case rel => exact ⟨i + 1, _, by omega, by go_num, HL2, HMz, HFz, HKz, HBz⟩
          case measure => simp [intOf]; omega
    · obtain rfl : i = N.length := by omega
      have HV : Hid (R = (0, 0)) := hide_ (by have h := HL.out; rw [List.drop_length] at h; rw [← h]; rfl)
      have hb0 := bldF0
      have c0 := HF.out.cell 0; have c1 := HF.out.cell 1
      have f0 := HF.out.frozen 0; have f1 := HF.out.frozen 1
      simp at c0 c1
      go_wp2
      exact retF (a := 0) (b := 0) rfl rfl (wr2 HF.out _ _) ⟨by rw [HV.out], hide_ (below_set2 HB.out _ _ _ (Nat.le_refl _))⟩
end Go.Proofs.Ytjeafblkmipdmaa
