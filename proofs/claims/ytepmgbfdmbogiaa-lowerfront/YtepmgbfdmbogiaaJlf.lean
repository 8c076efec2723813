import Derived.Test.YtepmgbfdmbogiaaLca
import Derived.Test.YtepmgbfdmbogiaaLwh
import Derived.Test.YtepmgbfdmbogiaaLwx
import Derived.BigQuiet
import Derived.Test.YtepmgbfdmbogiaaWeigh
import Derived.Test.YtepmgbfdmbogiaaZc
import Derived.Test.YtepmgbfdmbogiaaRead
import Derived.SizedLaws
import Derived.WalkKit
import Derived.ProofKit
import Derived.Below
import Derived.OpenShut
import Derived.ShutString
/- Lower, plain: a routine hangs on the types that it is made of alone; of fewer types a front. -/
namespace Go.Proofs.Ytepmgbfdmbogiaa
open Go.RowKit
set_option linter.unusedVariables false

theorem rowP_congr {X X' : List Ex} {ps : List Pt} (h : ∀ p ∈ ps, exAt X p.ty = exAt X' p.ty) : rowP X ps = rowP X' ps := by
  have key : ∀ (ps : List Pt) (y : Ly), (∀ p ∈ ps, exAt X p.ty = exAt X' p.ty) → ps.foldl (addF X) y = ps.foldl (addF X') y := fun ps => by
    induction ps with
    | nil => intro y _; rfl
    | cons p ps ih =>
      intro y h
      rw [List.foldl_cons, List.foldl_cons]
      have e : addF X y p = addF X' y p := by unfold addF; rw [h p (List.mem_cons_self ..)]
      rw [e]
      exact ih _ (fun q hq => h q (List.mem_cons_of_mem _ hq))
  exact key ps _ h
theorem ptA_mem {ps : List Pt} {j : Nat} (h : j < ps.length) : ptA ps j ∈ ps := by
  unfold ptA
  rw [List.getD_eq_getElem?_getD, List.getElem?_eq_getElem h]
  exact List.getElem_mem h
theorem bdP_congr {T T' : List Ty} {ps : List Pt} (r : Int) (h : ∀ p ∈ ps, rdP T 0 p.ty = rdP T' 0 p.ty) : ∀ m, m ≤ ps.length → bdP T ps r m = bdP T' ps r m
  | 0, _ => rfl
  | m + 1, hm => by rw [bdP_succ, bdP_succ, bdP_congr r h m (by omega), h _ (ptA_mem (by omega))]
theorem fxP_congr {T T' : List Ty} {X X' : List Ex} {ps : List Pt} (sz : Int) (h : ∀ p ∈ ps, exAt X p.ty = exAt X' p.ty ∧ ∀ k, rdP T k p.ty = rdP T' k p.ty) : ∀ m, m ≤ ps.length → fxP T X ps sz m = fxP T' X' ps sz m
  | 0, _ => rfl
  | m + 1, hm => by
    have hh := h _ (ptA_mem (show m < ps.length by omega))
    rw [fxP_succ, fxP_succ, fxP_congr sz h m (by omega), hh.1, hh.2]
theorem vrN_congr {X X' : List Ex} {ps : List Pt} (h : ∀ p ∈ ps, exAt X p.ty = exAt X' p.ty) : ∀ m, m ≤ ps.length → vrN X ps m = vrN X' ps m
  | 0, _ => rfl
  | m + 1, hm => by
    show vrN X ps m + _ = vrN X' ps m + _
    rw [vrN_congr h m (by omega), h _ (ptA_mem (by omega))]
theorem vrP_congr {X X' : List Ex} {ps : List Pt} (h : ∀ p ∈ ps, exAt X p.ty = exAt X' p.ty) : ∀ m, m ≤ ps.length → vrP X ps m = vrP X' ps m
  | 0, _ => rfl
  | m + 1, hm => by rw [vrP_succ, vrP_succ, vrP_congr h m (by omega), vrN_congr h m (by omega), h _ (ptA_mem (by omega))]
theorem rtnP_congr {T T' : List Ty} {X X' : List Ex} {t : Ty} {i : Nat} (b : Int) (hok : tyOk t (i : Int) = true) (hself : tyA T (i : Int) = tyA T' (i : Int)) (h : ∀ e : Int, 0 ≤ e → e < (i : Int) → tyA T e = tyA T' e ∧ exAt X e = exAt X' e) : rtnP T X t (i : Int) b = rtnP T' X' t (i : Int) b := by
  have hrd : ∀ k e, (tyA T e = tyA T' e) → rdP T k e = rdP T' k e := fun k e he => by unfold rdP; rw [he]
  have hel : hasE t.k = true → 0 ≤ t.e ∧ t.e < (i : Int) := fun hk => by
    have := (tyOk_parts hok).2.1
    unfold elemOk at this
    rw [if_pos hk] at this
    exact of_decide_eq_true this
  have hpt : ∀ p ∈ t.ps, exAt X p.ty = exAt X' p.ty ∧ ∀ k, rdP T k p.ty = rdP T' k p.ty := fun p hp => by
    obtain ⟨j, hj, rfl⟩ := List.getElem_of_mem hp
    obtain ⟨h0, h1⟩ := tyOk_part hok (List.getElem?_eq_getElem hj)
    obtain ⟨e1, e2⟩ := h _ h0 h1
    exact ⟨e2, fun k => hrd k _ e1⟩
  have hx : ∀ p ∈ t.ps, exAt X p.ty = exAt X' p.ty := fun p hp => (hpt p hp).1
  unfold rtnP
  congr 1
  unfold bodP
  by_cases h6 : t.k = 6
  · rw [if_pos h6, if_pos h6]
    obtain ⟨e0, e1⟩ := hel (by unfold hasE; rw [h6]; decide)
    rw [hrd 0 _ (h _ e0 e1).1]
  rw [if_neg h6, if_neg h6]
  by_cases h1 : t.k = 1 ∨ t.k = 2 ∨ t.k = 3
  · rw [if_pos h1, if_pos h1, hrd (-1) _ hself]
  rw [if_neg h1, if_neg h1]
  by_cases h4 : t.k = 4 ∨ t.k = 5
  · rw [if_pos h4, if_pos h4]
    obtain ⟨e0, e1⟩ := hel (by unfold hasE; rcases h4 with h4 | h4 <;> rw [h4] <;> decide)
    obtain ⟨a1, a2⟩ := h _ e0 e1
    have hl : (layP X t).sz = (layP X' t).sz := by
      have h8 : ¬ t.k = 8 := by omega
      unfold layP
      rw [if_neg h8, if_neg h8, a2]
    have hf : itF T t b = itF T' t b := by unfold itF; rw [hrd (-1) _ a1]
    rw [a2, hl, hf]
  rw [if_neg h4, if_neg h4]
  by_cases h7 : t.k = 7
  · rw [if_pos h7, if_pos h7]
    unfold armP
    rw [bdP_congr _ (fun p hp => (hpt p hp).2 0) _ (Nat.le_refl _)]
  rw [if_neg h7, if_neg h7]
  by_cases h8 : t.k = 8
  · rw [if_pos h8, if_pos h8]
    have hl : (layP X t).sz = (layP X' t).sz := by unfold layP; rw [if_pos h8, if_pos h8, rowP_congr hx]
    unfold fldP
    rw [hl, fxP_congr _ hpt _ (Nat.le_refl _), vrP_congr hx _ (Nat.le_refl _)]
  rw [if_neg h8, if_neg h8]
theorem tyA_take {T : List Ty} {n : Nat} {e : Int} (h0 : 0 ≤ e) (h1 : e < (n : Int)) : tyA (T.take n) e = tyA T e := by
  unfold tyA
  rw [List.getD_eq_getElem?_getD, List.getD_eq_getElem?_getD, List.getElem?_take, if_pos (by omega)]
theorem getD_take {T : List Ty} {n j : Nat} (h : j < n) : (T.take n).getD j ty0 = T.getD j ty0 := by
  rw [List.getD_eq_getElem?_getD, List.getD_eq_getElem?_getD, List.getElem?_take, if_pos h]
theorem lowC_take {T : List Ty} {R : List Rt} (hS : OkS T R) {n : Nat} (hn : n ≤ T.length) : ∀ i, i ≤ n → lowC (T.take n) (extL (T.take n)) i = lowC T (extL T) i
  | 0, _ => rfl
  | i + 1, hi => by
    have ih := lowC_take hS hn i (by omega)
    show lowC (T.take n) _ i ++ _ = lowC T _ i ++ _
    rw [ih, tyA_take (by omega) (by omega)]
    have hok := hS.ty i (by omega)
    have e : tyA T (i : Int) = T.getD i ty0 := by unfold tyA; rw [Int.toNat_natCast]
    rw [e]
    rw [rtnP_congr _ hok (tyA_take (by omega) (by omega)) (fun e h0 h1 => ⟨tyA_take h0 (by omega), exAt_take hn h0 (by omega)⟩)]
theorem lowC_front (T : List Ty) (X : List Ex) (i : Nat) : ∀ j, (lowC T X i) <+: (lowC T X (i + j))
  | 0 => List.prefix_refl _
  | j + 1 => by
    have := lowC_front T X i j
    show _ <+: lowC T X (i + j) ++ _
    exact this.trans (List.prefix_append _ _)
/-! ### The roots of the first types -/
theorem names_apart {R : List Rt} (h : ∀ j, j < R.length → findR R (R.getD j rt0).name = j) : R.Pairwise (fun a b => a.name ≠ b.name) := by
  rw [List.pairwise_iff_getElem]
  intro i j hi hj hij e
  have h1 := h j hj
  rw [List.getD_eq_getElem?_getD, List.getElem?_eq_getElem hj] at h1
  simp only [Option.getD_some] at h1
  unfold findR at h1
  have : R.findIdx (fun q => decide (q.name = R[j].name)) ≤ i := by
    apply Nat.le_of_not_lt
    intro hlt
    have := List.not_of_lt_findIdx hlt
    simp [e] at this
  omega
theorem names_find {R : List Rt} (h : R.Pairwise (fun a b => a.name ≠ b.name)) (j : Nat) (hj : j < R.length) : findR R (R.getD j rt0).name = j := by
  rw [List.getD_eq_getElem?_getD, List.getElem?_eq_getElem hj]
  simp only [Option.getD_some]
  unfold findR
  rw [List.findIdx_eq hj]
  refine ⟨by simp, fun i hi => ?_⟩
  rw [List.pairwise_iff_getElem] at h
  have := h i j (by omega) hj hi
  simp [this]
theorem rt_cut {T : List Ty} {R : List Rt} (hS : OkS T R) {n : Nat} (hn : n ≤ T.length) : OkS (T.take n) (rtF n R) := by
  have hl : (T.take n).length = n := by rw [List.length_take]; omega
  refine ⟨fun j hj => ?_, fun j hj => ?_, fun j hj => ?_⟩
  · rw [hl] at hj
    rw [getD_take hj]
    exact hS.ty j (by omega)
  · rw [hl] at hj
    rw [depL_take T hj hn]
    exact hS.dep j (by omega)
  · rw [hl]
    have hap := names_apart (R := R) (fun k hk => by
      have := hS.root k hk
      unfold rootOk at this
      simp only [Bool.and_eq_true] at this
      exact of_decide_eq_true this.2)
    have hap2 : (rtF n R).Pairwise (fun a b => a.name ≠ b.name) := hap.sublist (List.filter_sublist)
    have hle := rtF_le n R
    have h256 := hS.root j (by omega)
    unfold rootOk at h256
    simp only [Bool.and_eq_true] at h256
    have hm : (rtF n R).getD j rt0 ∈ rtF n R := by
      rw [List.getD_eq_getElem?_getD, List.getElem?_eq_getElem hj]
      exact List.getElem_mem hj
    have hmR := (List.mem_filter.1 hm)
    obtain ⟨k, hk, hke⟩ := List.getElem_of_mem hmR.1
    have hrk := hS.root k hk
    unfold rootOk at hrk
    rw [show R.getD k rt0 = (rtF n R).getD j rt0 by rw [← hke, List.getD_eq_getElem?_getD, List.getElem?_eq_getElem hk]; rfl] at hrk
    simp only [Bool.and_eq_true] at hrk
    have hty := of_decide_eq_true hmR.2
    have hin := of_decide_eq_true hrk.1.2
    unfold rootOk
    rw [names_find hap2 j hj]
    simp only [Bool.and_eq_true]
    exact ⟨⟨⟨h256.1.1.1, hrk.1.1.2⟩, decide_eq_true ⟨hin.1, hty⟩⟩, by simp⟩
theorem lowA_ok {T : List Ty} {R : List Rt} (h : lowA T R = 0) : OkS T R ∧ bigX (extL T) = false ∧ (lowC T (extL T) T.length).length ≤ 1048576 := by
  unfold lowA at h
  by_cases h1 : (chk T R).1 ≠ 0
  · rw [if_pos h1] at h; cases h
  rw [if_neg h1] at h
  by_cases h2 : bigX (extL T) = true
  · rw [if_pos h2] at h; cases h
  rw [if_neg h2] at h
  by_cases h3 : 1048576 < (lowC T (extL T) T.length).length
  · rw [if_pos h3] at h; cases h
  exact ⟨okS_of (by omega), by simpa using h2, by omega⟩
theorem lowA_of {T : List Ty} {R : List Rt} (h1 : OkS T R) (h2 : bigX (extL T) = false) (h3 : (lowC T (extL T) T.length).length ≤ 1048576) : lowA T R = 0 := by
  unfold lowA
  rw [if_neg (by rw [h1.chk]; simp), if_neg (by rw [h2]; decide), if_neg (by omega)]
/-- Of fewer types the program is a front. -/
theorem low_front {T : List Ty} {R : List Rt} (h : lowA T R = 0) {n : Nat} (hn : n ≤ T.length) : (chk (T.take n) (rtF n R)).1 = 0 ∧ lowA (T.take n) (rtF n R) = 0 ∧ lowX (T.take n) (rtF n R) = lowC T (extL T) n ∧ lowY (T.take n) (rtF n R) = lowE T (extL T) n := by
  obtain ⟨hS, hb, hl⟩ := lowA_ok h
  have hS2 := rt_cut hS hn
  have hln : (T.take n).length = n := by rw [List.length_take]; omega
  have hc := lowC_take hS hn
  have hm := lowC_mono T (extL T) n (T.length - n)
  rw [show n + (T.length - n) = T.length by omega] at hm
  have hA : lowA (T.take n) (rtF n R) = 0 := lowA_of hS2 (by
    rw [extL_take T n hn]
    unfold bigX at hb ⊢
    rw [List.any_eq_false] at hb ⊢
    exact fun x hx => hb x (List.mem_of_mem_take hx)) (by rw [hln, hc n (Nat.le_refl _)]; omega)
  refine ⟨by rw [hS2.chk], hA, ?_, ?_⟩
  · unfold lowX
    rw [if_pos hA, hln, hc n (Nat.le_refl _)]
  · unfold lowY
    rw [if_pos hA, hln]
    unfold lowE
    refine List.map_congr_left (fun j hj => ?_)
    rw [hc j (by have := List.mem_range.1 hj; omega)]
end Go.Proofs.Ytepmgbfdmbogiaa
/- LowerFront: its walk. -/
namespace Go.Proofs.Ytepmgbfdmbogiaa
open Go.RowKit
set_option linter.unusedVariables false

theorem fldF (a b : Int) (w : World) : (Instr.field 37 (.agg #[.int .i64 a, .int .i64 b]) 0).run Try.prog w = .ok (.int .i64 a) w := by kernel_rfl
/-- A schema that is lent, as an argument. -/
theorem LtS.arg {w : World} {B gT cT gR cR n : Nat} {Q : List (Ty × Value)} {R : List Rt} {T : List Ty} (h : LtS w B gT cT Q gR cR R mkP mkT mkR) (hQ : Q.map (·.1) = T.take n) : TRow w (some ⟨gT, 0, none⟩) (T.take n) ∧ RRow w (some ⟨gR, 0, none⟩) R := by
  have := h.row
  rw [hQ] at this
  exact this
theorem LtS.base {w : World} {B B' gT cT gR cR : Nat} {Q : List (Ty × Value)} {R : List Rt} (h : LtS w B gT cT Q gR cR R mkP mkT mkR) (hb : B' ≤ B) : LtS w B' gT cT Q gR cR R mkP mkT mkR := by
  refine ⟨⟨own_base h.ty.1 hb, fun p hp => ?_⟩, fun p hp => ?_, own_base h.rt hb⟩
  · rcases List.mem_append.1 hp with hp | hp
    · exact (h.mks p hp).ptIn B'
    · simp only [List.mem_singleton] at hp
      subst hp
      exact ⟨none, 0, rfl, Nat.le_refl _, fun _ => rfl, .inl rfl, .inl rfl⟩
  · obtain ⟨g, c, e, h1, h2, h3, h4⟩ := h.mks p hp
    exact ⟨g, c, e, h1, h2, Nat.le_trans hb h3, h4⟩
/-- Blocks of other types may change. -/
theorem LtS.updT {w w' : World} {B gT cT gR cR g : Nat} {Q : List (Ty × Value)} {R : List Rt} {t : TypeId} {ys : List Value} (h : LtS w B gT cT Q gR cR R mkP mkT mkR) (hu : Upd (fun k => k = g) w w') (hb : Blk w g t ys) (hg : B ≤ g) (h1 : t ≠ 54) (h2 : t ≠ 56) (h3 : t ≠ 58) : LtS w' B gT cT Q gR cR R mkP mkT mkR :=
  ⟨h.ty.updS hu (fun k hk => by subst hk; exact hg) (fun k ys hk hb' => by subst hk; exact h2 (blk_type hb hb')) (fun k ys hk hb' => by subst hk; exact h1 (blk_type hb hb')), fun p hp => (h.mks p hp).upd hu (fun k ys hk hb' => by subst hk; exact h2 (blk_type hb hb')), h.rt.updN hu hb h3⟩
theorem take_parts {T : List Ty} {n : Nat} {b : Nat} (h : ∀ t ∈ T, t.ps.length ≤ b) : ∀ t ∈ T.take n, t.ps.length ≤ b := fun t ht => h t (List.mem_of_mem_take ht)
theorem lens_take {T : List Ty} {n : Nat} (hn : n ≤ 1000000000) (h : ∀ t ∈ T, t.ps.length ≤ 4398046510976) : LensT (T.take n) := ⟨by rw [List.length_take]; omega, fun t ht => by have := take_parts h t ht; omega⟩
theorem blkS2 {w : World} {g : Nat} {t : TypeId} {x y : Value} (h : Blk w g t [x, y]) (x' y' : Value) : Blk ((w.setCell ⟨g, 0, none⟩ x').setCell ⟨g, 1, none⟩ y') g t [x', y'] := by
  have := (h.set 0 x').set 1 y'
  simpa using this
theorem tmod_in (a b : Int) (h : 0 < b) : -b < a.tmod b ∧ a.tmod b < b := ⟨by have := Int.lt_tmod_of_pos a h; omega, Int.tmod_lt_of_pos a h⟩
set_option maxRecDepth 100000 in
set_option maxHeartbeats 8000000 in
theorem front_any (aT : Option Addr) (cT : Nat) (T : List Ty) (aR : Option Addr) (cR : Nat) (R : List Rt) (nn : Int) (w : World) (hnn : -9223372036854775808 ≤ nn ∧ nn ≤ 9223372036854775807) (hTl : T.length ≤ 1000000000000000) (hRl : R.length ≤ 5864062014634) (hl : Hid (∀ t ∈ T, t.ps.length ≤ 4398046510976)) (hT : Hid (TRow w aT T)) (hR : Hid (RRow w aR R)) :
    Calls Try.prog 3 #[.agg #[.slice aT T.length cT, .slice aR R.length cR], .int .i64 nn] w fun e w' => e = .returned (.bool true) ∧ Below w.heap.size w w' := by
  obtain ⟨w1, hw1⟩ : ∃ wx, wx = w.alloc (.cells #[.slice aT T.length cT, .slice aR R.length cR] 25) := ⟨_, rfl⟩
  have hB1 : Below w.heap.size w w1 := by rw [hw1]; exact below1 _ _
  have k1 : Blk w1 w.heap.size 25 [.slice aT T.length cT, .slice aR R.length cR] := by rw [hw1]; exact Blk.newA w _ _
  have HAw := hide_ (awake_any w1)
  have HB1 := hide_ hB1
  have K1 := hide_ k1
  clear hB1 k1
  go_enter Try.func3, Try.ntmps3
  go_upto_region 1 with fail
  rw [← hw1]
  clear hw1
  go_upto_region 3 with (go_at_call 6; refine HAw.out.mono ?_; rintro e w2 ⟨rfl, hB2⟩)
  have HB2 := hide_ (below_to HB1.out hB2)
  have K2 := hide_ (K1.out.later hB2)
  obtain ⟨m, hm⟩ : ∃ m, min 2000 T.length = m := ⟨_, rfl⟩
  have hm2 : m ≤ 2000 := by omega
  have hmT : m ≤ T.length := by omega
  have HCu := hide_ (cut_any aT cT T aR cR R 2000 m w2 hm (by omega) (by omega) hRl hl (hide_ (hT.out.later HB2.out)) (hide_ (hR.out.later HB2.out)))
  have s0 := K2.out.cell 0; have s1 := K2.out.cell 1
  simp at s0 s1
  clear hB2 HAw HB1 K1 hm
  go_wp2_with fail
  refine HCu.out.mono ?_
  rintro e w3 ⟨gT, cT3, Q, gR, cR3, rfl, HL3, HQ3, HB3⟩
  have k3 := K2.out.later HB3.out
  have t0 := k3.cell 0; have t1 := k3.cell 1
  have tz := fun i => k3.frozen i
  simp at t0 t1
  obtain ⟨w4, hw4⟩ : ∃ wx, wx = (w3.setCell ⟨w.heap.size, 0, none⟩ (.slice (some ⟨gT, 0, none⟩) m cT3)).setCell ⟨w.heap.size, 1, none⟩ (.slice (some ⟨gR, 0, none⟩) (rtF m R).length cR3) := ⟨_, rfl⟩
  have K4 : Hid (Blk w4 w.heap.size 25 [.slice (some ⟨gT, 0, none⟩) m cT3, .slice (some ⟨gR, 0, none⟩) (rtF m R).length cR3]) := hide_ (by rw [hw4]; exact blkS2 k3 _ _)
  have hu4 : Upd (fun k => k = w.heap.size) w3 w4 := by rw [hw4]; exact ((Upd.refl (fun k => k = w.heap.size) w3).set _ _ (.inl rfl)).set _ _ (.inl rfl)
  have HL4 : Hid (LtS w4 w.heap.size gT cT3 Q gR cR3 (rtF m R) mkP mkT mkR) := hide_ ((HL3.out.base HB2.out.size).updT hu4 k3 (Nat.le_refl _) (by decide) (by decide) (by decide))
  have HB4 : Hid (Below w.heap.size w w4) := hide_ ((below_to HB2.out HB3.out).trans (hu4.below _ (below_to HB2.out HB3.out).size (fun k hk => by omega)))
  clear hu4 k3 HL3 HB3 HCu s0 s1 K2 HB2
  go_upto_region 4 with fail
  rw [← hw4]
  clear hw4 t0 t1 tz
  have hRm : (rtF m R).length ≤ 5864062014634 := Nat.le_trans (rtF_le m R) hRl
  obtain ⟨U, hU⟩ : ∃ U, U = T.take m := ⟨_, rfl⟩
  have hUl : U.length = m := by rw [hU, List.length_take]; omega
  have HUp : Hid (∀ t ∈ U, t.ps.length ≤ 4398046510976) := hide_ (by rw [hU]; exact take_parts hl.out)
  have HUL : Hid (LensT U) := hide_ (by rw [hU]; exact lens_take (by omega) hl.out)
  have HRw : Hid (TRow w4 (some ⟨gT, 0, none⟩) U ∧ RRow w4 (some ⟨gR, 0, none⟩) (rtF m R)) := hide_ (by rw [hU]; exact HL4.out.arg HQ3.out)
  generalize rtF m R = S at *
  have hd := decoder_any (some ⟨gT, 0, none⟩) cT3 U (some ⟨gR, 0, none⟩) cR3 S w4 (by omega) (by omega) HUL (hide_ HRw.out.1) (hide_ HRw.out.2)
  rw [hUl] at hd
  have HD := hide_ hd
  have HUl := hide_ hUl
  clear hd hU HL4 HQ3 hUl hmT
  have s0 := K4.out.cell 0; have s1 := K4.out.cell 1
  simp at s0 s1
  go_wp2_with fail
  refine HD.out.mono ?_
  rintro e w5 ⟨vC, vE, rfl, HC5, HE5, hB5⟩
  obtain ⟨ac, cc, rfl, -, -, -⟩ := HC5.out.row
  obtain ⟨ae, ce, rfl, -, -, -⟩ := HE5.out.row
  obtain ⟨w6, hw6⟩ : ∃ wx, wx = w5.alloc (.cells #[.bool false, .slice ac (lowX U S).length cc, .slice ae (lowY U S).length ce] 31) := ⟨_, rfl⟩
  have hB6 : Below w5.heap.size w5 w6 := by rw [hw6]; exact below1 _ _
  have KP6 : Hid (Blk w6 w5.heap.size 31 [.bool false, .slice ac (lowX U S).length cc, .slice ae (lowY U S).length ce]) := hide_ (by rw [hw6]; exact Blk.newA w5 _ _)
  have HB46 := hide_ (below_to hB5 hB6)
  have HC6 := hide_ (HC5.out.later hB6)
  have HE6 := hide_ (HE5.out.later hB6)
  have K6 := hide_ (K4.out.later HB46.out)
  have HB6 := hide_ (below_to HB4.out HB46.out)
  clear HD hB5 hB6 HC5 HE5 s0 s1 K4
  have HLf : Hid (lowA U S = 0 → ∀ q, q ≤ U.length → (chk (U.take q) (rtF q S)).1 = 0 ∧ lowA (U.take q) (rtF q S) = 0 ∧ lowX (U.take q) (rtF q S) = lowC U (extL U) q ∧ lowY (U.take q) (rtF q S) = lowE U (extL U) q) := hide_ (fun h q hq => low_front h hq)
  have HNu := hide_ (fun n w' => num_any n w')
  go_upto_region 5 with fail
  rw [← hw6]
  clear hw6
  obtain ⟨g5, hg5⟩ : ∃ g, g = w5.heap.size := ⟨_, rfl⟩
  rw [← hg5] at KP6 ⊢
  clear hg5
  have s0 := K6.out.cell 0
  simp at s0
  by_cases hA : lowA U S = 0
  · rw [hA]
    by_cases h0 : m = 0
    · have h0' : ((m : Int) == 0) = true := by simp [h0]
      clear h0
      go_wp2_with (go_at_call 9; refine (HNu.out _ _).mono ?_; rintro e w' ⟨rfl, rfl⟩)
      go_ret
      exact ⟨rfl, HB6.out⟩
    have h0' : ((m : Int) == 0) = false := by rw [beq_eq_false_iff_ne]; omega
    obtain ⟨q1, q2⟩ := tmod_in nn ((m : Int) + 1) (by omega)
    have hz : ((m : Int) + 1 == 0) = false := by rw [beq_eq_false_iff_ne]; omega
    obtain ⟨tq, htq⟩ : ∃ tq, nn.tmod ((m : Int) + 1) = tq := ⟨_, rfl⟩
    rw [htq] at q1 q2
    go_upto_region 8 with (go_at_call 9; refine (HNu.out _ _).mono ?_; rintro e w' ⟨rfl, rfl⟩)
    go_upto_if 37 with fail
    go_cut [1] from 38 to 43 (fun x1 wc => ∃ q : Nat, x1 = .int .i64 (q : Int) ∧ q ≤ m ∧ w6 = wc)
    case first =>
      by_cases hn : tq < 0
      · obtain ⟨q, hq⟩ : ∃ q : Nat, tq + (m : Int) + 1 = (q : Int) := ⟨(tq + (m : Int) + 1).toNat, by omega⟩
        have hql : q ≤ m := by omega
        go_wp2_with fail
        go_meet
        case rel => exact ⟨q, rfl, hql, rfl⟩
      · obtain ⟨q, hq⟩ : ∃ q : Nat, tq = (q : Int) := ⟨tq.toNat, by omega⟩
        have hql : q ≤ m := by omega
        subst hq
        go_wp2_with fail
        go_meet
        case rel => exact ⟨q, rfl, hql, rfl⟩
    case rest =>
    obtain ⟨q, rfl, hql, rfl⟩ := hcut
    clear htq q1 q2 hz h0 h0' s0
    obtain ⟨F1, F2, F3, F4⟩ := HLf.out hA q (by rw [HUl.out]; exact hql)
    have hcu := cut_any (some ⟨gT, 0, none⟩) cT3 U (some ⟨gR, 0, none⟩) cR3 S q q w6 (by rw [HUl.out]; omega) (by omega) (by rw [HUl.out]; omega) hRm HUp (hide_ (HRw.out.1.later HB46.out)) (hide_ (HRw.out.2.later HB46.out))
    rw [HUl.out] at hcu
    have HCu := hide_ hcu
    have s0 := K6.out.cell 0; have s1 := K6.out.cell 1
    simp at s0 s1
    clear hcu HLf
    go_wp2_with fail
    refine HCu.out.mono ?_
    rintro e w7 ⟨gT2, cT7, Q2, gR2, cR7, rfl, HL7, HQ7, HB7⟩
    obtain ⟨w8, hw8⟩ : ∃ wx, wx = w7.alloc (.cells #[.slice (some ⟨gT2, 0, none⟩) q cT7, .slice (some ⟨gR2, 0, none⟩) (rtF q S).length cR7] 25) := ⟨_, rfl⟩
    have hB8 : Below w7.heap.size w7 w8 := by rw [hw8]; exact below1 _ _
    have K8 : Hid (Blk w8 w7.heap.size 25 [.slice (some ⟨gT2, 0, none⟩) q cT7, .slice (some ⟨gR2, 0, none⟩) (rtF q S).length cR7]) := hide_ (by rw [hw8]; exact Blk.newA w7 _ _)
    have HRw8 := hide_ ((HL7.out.later hB8).arg HQ7.out)
    have HB68 := hide_ (below_to HB7.out hB8)
    have hRq : (rtF q S).length ≤ 5864062014634 := Nat.le_trans (rtF_le q S) hRm
    have hVl : (U.take q).length = q := by rw [List.length_take, HUl.out]; omega
    have HVL : Hid (LensT (U.take q)) := hide_ (lens_take (by omega) HUp.out)
    clear HL7 HQ7 HB7 hB8 HCu s0 s1 HRw
    go_upto_region 11 with fail
    rw [← hw8]
    clear hw8
    obtain ⟨g8, hg8⟩ : ∃ g, g = w7.heap.size := ⟨_, rfl⟩
    rw [← hg8] at K8 ⊢
    clear hg8
    have hd := decoder_any (some ⟨gT2, 0, none⟩) cT7 (U.take q) (some ⟨gR2, 0, none⟩) cR7 (rtF q S) w8 (by omega) (by omega) HVL (hide_ HRw8.out.1) (hide_ HRw8.out.2)
    unfold DcTo at hd
    rw [hVl, F2, F3, F4] at hd
    have hck := fun w' (hb : Below w8.heap.size w8 w') => check_any (some ⟨gT2, 0, none⟩) cT7 (U.take q) (some ⟨gR2, 0, none⟩) cR7 (rtF q S) w' (by omega) (by omega) HVL (hide_ (HRw8.out.1.later hb)) (hide_ (HRw8.out.2.later hb))
    simp only [hVl, F1] at hck
    have HD := hide_ hd
    have HCk := hide_ hck
    have HX6 : Hid (lowX U S = lowC U (extL U) m ∧ lowY U S = lowE U (extL U) m) := hide_ (by unfold lowX lowY; rw [if_pos hA, if_pos hA, HUl.out]; exact ⟨rfl, rfl⟩)
    clear hd hck F1 F2 F3 F4 hVl
    rw [HX6.out.1] at HC6
    rw [HX6.out.2] at HE6
    rw [HX6.out.1, HX6.out.2] at KP6 ⊢
    generalize rtF q S = S2 at *
    generalize (chk (U.take q) S2).2 = ck2 at *
    have s0 := K8.out.cell 0; have s1 := K8.out.cell 1
    simp at s0 s1
    go_wp2_with fail
    refine HD.out.mono ?_
    rintro e w9 ⟨vC9, vE9, rfl, HC9, HE9, hB9⟩
    obtain ⟨ac9, cc9, rfl, -, -, -⟩ := HC9.out.row
    obtain ⟨ae9, ce9, rfl, -, -, -⟩ := HE9.out.row
    rw [lowE_len] at HE9 HE6 KP6 ⊢
    have hmono := lowC_mono U (extL U) q (m - q)
    have hpre := lowC_front U (extL U) q (m - q)
    rw [show q + (m - q) = m by omega] at hmono hpre
    have HEq : Hid (∀ (i : Nat), i < q → (lowE U (extL U) q)[i]? = some ((lowC U (extL U) i).length : Int)) := hide_ (fun i hi => by unfold lowE; rw [List.getElem?_map, List.getElem?_range hi]; rfl)
    have HEm : Hid (∀ (i : Nat), i < m → (lowE U (extL U) m)[i]? = some ((lowC U (extL U) i).length : Int)) := hide_ (fun i hi => by unfold lowE; rw [List.getElem?_map, List.getElem?_range hi]; rfl)
    have HPre := hide_ hpre
    have HlC : Hid (∀ i, i ≤ q → (lowC U (extL U) i).length ≤ 1048576) := hide_ (fun i hi => by
      obtain ⟨-, -, h3⟩ := lowA_ok hA
      have := lowC_mono U (extL U) i (U.length - i)
      rw [show i + (U.length - i) = U.length by rw [HUl.out]; omega] at this
      omega)
    have hcq := HlC.out q (Nat.le_refl _)
    obtain ⟨lq, hlq⟩ : ∃ l, (lowC U (extL U) q).length = l := ⟨_, rfl⟩
    have HLq := hide_ hlq
    obtain ⟨lm, hlm⟩ : ∃ l, (lowC U (extL U) m).length = l := ⟨_, rfl⟩
    have HLm := hide_ hlm
    rw [hlq] at hmono HC9 hcq ⊢
    rw [hlm] at hmono HC6 KP6
    have hng : ¬ ((lm : Nat) : Int) < ((lq : Nat) : Int) := by omega
    obtain ⟨w10, hw10⟩ : ∃ wx, wx = w9.alloc (.cells #[.bool false, .slice ac9 lq cc9, .slice ae9 q ce9] 31) := ⟨_, rfl⟩
    have hB10 : Below w9.heap.size w9 w10 := by rw [hw10]; exact below1 _ _
    have KQ : Hid (Blk w10 w9.heap.size 31 [.bool false, .slice ac9 lq cc9, .slice ae9 q ce9]) := hide_ (by rw [hw10]; exact Blk.newA w9 _ _)
    have HC10 := hide_ (HC9.out.later hB10)
    have HE10 := hide_ (HE9.out.later hB10)
    have HB810 := hide_ (below_to hB9 hB10)
    have HB610 := hide_ (below_to HB68.out HB810.out)
    have KP := hide_ (KP6.out.later HB610.out)
    have HCp := hide_ (HC6.out.later HB610.out)
    have HEp := hide_ (HE6.out.later HB610.out)
    have KS := hide_ (K6.out.later HB610.out)
    have KC := hide_ (K8.out.later HB810.out)
    have HB10 := hide_ (below_to HB6.out HB610.out)
    clear hpre hlq hlm s0 s1 HD HC9 HE9 hB9 hB10 KP6 HC6 HE6 K6 K8 HX6
    go_upto_region 12 with fail
    rw [← hw10]
    clear hw10
    obtain ⟨g10, hg10⟩ : ∃ g, g = w9.heap.size := ⟨_, rfl⟩
    rw [← hg10] at KQ ⊢
    clear hg10
    have c0 := KC.out.cell 0; have c1 := KC.out.cell 1
    simp at c0 c1
    have hfl := fun w' => fldF 0 ck2 w'
    go_wp2_with fail
    refine (HCk.out _ HB810.out).mono ?_
    rintro e w11 ⟨rfl, hB11⟩
    have HB11 := hide_ hB11
    have KQ11 := hide_ (KQ.out.later hB11)
    have KP11 := hide_ (KP.out.later hB11)
    have HC11 := hide_ (HC10.out.later hB11)
    have HE11 := hide_ (HE10.out.later hB11)
    have HCp11 := hide_ (HCp.out.later hB11)
    have HEp11 := hide_ (HEp.out.later hB11)
    have KS11 := hide_ (KS.out.later hB11)
    have HBf := hide_ (below_to HB10.out hB11)
    have u1 := KQ11.out.cell 1; have u2 := KQ11.out.cell 2; have v1 := KP11.out.cell 1; have v2 := KP11.out.cell 2
    simp at u1 u2 v1 v2
    clear hB11 c0 c1 KQ KP HC10 HE10 HCp HEp KS HB10 HB11 HCk KC
    go_upto_region 14 with (go_at_call 9; refine (HNu.out _ _).mono ?_; rintro e w' ⟨rfl, rfl⟩)
    clear hfl u1 u2 v1 v2
    go_wp2_with fail
    go_loopw [10] (fun x10 wr => ∃ (i : Nat), i ≤ lq ∧ x10 = .int .i64 (i : Int) ∧ Hid (Below w11.heap.size w11 wr)) (fun x10 _ => lq - (intOf x10).toNat)
    case atStart => exact ⟨0, Nat.zero_le _, rfl, hide_ (Below.refl _ _)⟩
    case round =>
      obtain ⟨i, hi, rfl, HB⟩ := hrel
      generalize wr = wq at *
      have u1 := (KQ11.out.later HB.out).cell 1; have v1 := (KP11.out.later HB.out).cell 1
      simp at u1 v1
      by_cases hlt : i < lq
      · have hlt' : (i : Int) < (lq : Int) := by omega
        have hltm' : (i : Int) < (lm : Int) := by omega
        obtain ⟨x, hx⟩ : ∃ x, (lowC U (extL U) q)[i]? = some x := ⟨_, List.getElem?_eq_getElem (by rw [HLq.out]; exact hlt)⟩
        have hxm : (lowC U (extL U) m)[i]? = some x := by
          obtain ⟨t, ht⟩ := HPre.out
          rw [← ht, List.getElem?_append_left (by rw [HLq.out]; exact hlt)]
          exact hx
        obtain ⟨b1, o1, rfl, -, h1⟩ := (HC11.out.later HB.out).rowS.open (by rw [HLq.out]; omega)
        obtain ⟨b2, o2, rfl, -, h2⟩ := (HCp11.out.later HB.out).rowS.open (by rw [HLm.out]; omega)
        have a0 := h1 i x hx 0 (by decide); have a1 := h1 i x hx 1 (by decide); have a2 := h1 i x hx 2 (by decide); have a3 := h1 i x hx 3 (by decide)
        have b0 := h2 i x hxm 0 (by decide); have b1' := h2 i x hxm 1 (by decide); have b2' := h2 i x hxm 2 (by decide); have b3 := h2 i x hxm 3 (by decide)
        simp [inc] at a0 a1 a2 a3 b0 b1' b2' b3
        clear h1 h2 hx hxm
        go_upto_region 17 with fail
        go_quiet (fail)
        have HBq : ∀ k, Hid (Below w11.heap.size w11 (wq.drewN k)) := fun k => hide_ (below_drewN HB.out k)
        go_wp2_with fail
        go_roundw
        case rel => exact ⟨i + 1, by omega, by go_num, HBq _⟩
        case measure => simp [intOf]; omega
      · obtain rfl : lq = i := by omega
        clear hlt hi
        have HBq := HB
        go_upto_region 20 with fail
        clear u1 v1
        go_loopw [11] (fun x11 wr => ∃ (i : Nat), i ≤ q ∧ x11 = .int .i64 (i : Int) ∧ Hid (Below w11.heap.size w11 wr)) (fun x11 _ => q - (intOf x11).toNat)
        case atStart => exact ⟨0, Nat.zero_le _, rfl, HBq⟩
        case round =>
          obtain ⟨i, hi, rfl, HB2⟩ := hrel
          generalize wr = wz at *
          clear HB HBq
          have u1 := (KQ11.out.later HB2.out).cell 1; have u2 := (KQ11.out.later HB2.out).cell 2; have v1 := (KP11.out.later HB2.out).cell 1; have v2 := (KP11.out.later HB2.out).cell 2
          have z0 := (KS11.out.later HB2.out).cell 0
          simp at u1 u2 v1 v2 z0
          by_cases hlt : i < q
          · have hlt' : (i : Int) < (q : Int) := by omega
            have hltm' : (i : Int) < (m : Int) := by omega
            obtain ⟨b1, o1, rfl, -, h1⟩ := (HE11.out.later HB2.out).rowS.open (by rw [lowE_len]; omega)
            obtain ⟨b2, o2, rfl, -, h2⟩ := (HEp11.out.later HB2.out).rowS.open (by rw [lowE_len]; omega)
            have a0 := h1 i (by rw [lowE_len]; omega); have b0 := h2 i (by rw [lowE_len]; omega)
            rw [List.getD, HEq.out i hlt] at a0
            rw [List.getD, HEm.out i (by omega)] at b0
            simp only [Option.getD_some] at a0 b0
            clear h1 h2 u1 v1 z0
            generalize (lowC U (extL U) i).length = le at *
            go_upto_region 22 with fail
            go_quiet (fail)
            have HBq : ∀ k, Hid (Below w11.heap.size w11 (wz.drewN k)) := fun k => hide_ (below_drewN HB2.out k)
            go_wp2_with fail
            go_roundw
            case rel => exact ⟨i + 1, by omega, by go_num, HBq _⟩
            case measure => simp [intOf]; omega
          · obtain rfl : q = i := by omega
            clear hlt hi
            have HBz := hide_ (below_to HBf.out HB2.out)
            by_cases hqm : q = m
            · have hqm' : ((q : Int) == (m : Int)) = true := by simp [hqm]
              clear hqm
              go_upto_region 24 with fail
              go_quiet (fail)
              have HBq : ∀ k, Hid (Below w.heap.size w (wz.drewN k)) := fun k => hide_ (below_drewN HBz.out k)
              go_wp2_with fail
              go_ret
              exact ⟨rfl, (HBq _).out⟩
            · have hqm' : ((q : Int) == (m : Int)) = false := by rw [beq_eq_false_iff_ne]; omega
              have hltm' : (q : Int) < (m : Int) := by omega
              obtain ⟨b2, o2, rfl, -, h2⟩ := (HEp11.out.later HB2.out).rowS.open (by rw [lowE_len]; omega)
              have b0 := h2 q (by rw [lowE_len]; omega)
              rw [List.getD, HEm.out q (by omega)] at b0
              simp only [Option.getD_some] at b0
              rw [HLq.out] at b0
              clear h2 hqm u2 v1
              go_upto_region 24 with fail
              go_quiet (fail)
              have HBq : ∀ k, Hid (Below w.heap.size w (wz.drewN k)) := fun k => hide_ (below_drewN HBz.out k)
              go_wp2_with fail
              go_ret
              exact ⟨by simp, (HBq _).out⟩
  · have hA' : (lowA U S != 0) = true := by simpa using hA
    have hA2 : (lowA U S == 0) = false := by simpa using hA
    generalize lowA U S = eA at *
    go_wp2_with (go_at_call 9; refine (HNu.out _ _).mono ?_; rintro e w' ⟨rfl, rfl⟩)
    go_ret
    exact ⟨rfl, HB6.out⟩
end Go.Proofs.Ytepmgbfdmbogiaa
/- What the reading of a schema says of memory. -/
namespace Go.Proofs.Ytepmgbfdmbogiaa
open Go.ChangeShapes Go.WideShapes Go.ChangeAt Go.RowKit
set_option linter.unusedVariables false

variable {H : Type} {enc : TypeId × Value → H} {w : World} {base : Nat} {held : Bool}
theorem len2R {cs : List Value} (h : cs.length = 2) : ∃ c0 c1, cs = [c0, c1] := by
  match cs, h with
  | [c0, c1], _ => exact ⟨c0, c1, rfl⟩
theorem len3R {cs : List Value} (h : cs.length = 3) : ∃ c0 c1 c2, cs = [c0, c1, c2] := by
  match cs, h with
  | [c0, c1, c2], _ => exact ⟨c0, c1, c2, rfl⟩
theorem len4R {cs : List Value} (h : cs.length = 4) : ∃ c0 c1 c2 c3, cs = [c0, c1, c2, c3] := by
  match cs, h with
  | [c0, c1, c2, c3], _ => exact ⟨c0, c1, c2, c3, rfl⟩
theorem cellsPt : Try.prog.cellsOf 56 = 3 := by kernel_rfl
theorem cellsTy : Try.prog.cellsOf 54 = 4 := by kernel_rfl
theorem cellsRt : Try.prog.cellsOf 58 = 2 := by kernel_rfl
theorem cellsSc : Try.prog.cellsOf 25 = 2 := by kernel_rfl
theorem bytesPt : Try.prog.bytesOf 56 = 32 := by kernel_rfl
theorem bytesTy : Try.prog.bytesOf 54 = 48 := by kernel_rfl
theorem bytesRt : Try.prog.bytesOf 58 = 24 := by kernel_rfl
theorem slice_weightR {P : Program} {t e : TypeId} (ht : P.underlying t = some (.slice e)) {fuel : Nat} {a0 : Option Addr} {len cap : Nat} {y : DataW H × List MemPlace} (h : DataW.trod enc P w base (fun _ => true) held fuel t [.slice a0 len cap] = some y) : len = 0 ∨ ∃ k, len ≤ k ∧ k * P.bytesOf e ∈ y.1.weights P t := by
  rcases Go.Deep.open_slice ht h with ⟨hcs, _⟩ | ⟨x, l, c, m, n, D, Pl, hcs, _, hl, hm, hmm, hy, hel⟩
  · left
    simp at hcs
    exact hcs.2.1
  · simp at hcs
    obtain ⟨rfl, rfl, rfl⟩ := hcs
    right
    subst hy
    simp only [DataW.weights, ht]
    refine ⟨_, ?_, List.mem_cons_self⟩
    simp
theorem slice_formR {P : Program} {t e : TypeId} (ht : P.underlying t = some (.slice e)) {fuel : Nat} {c : Value} {y : DataW H × List MemPlace} (h : DataW.trod enc P w base (fun _ => true) held fuel t [c] = some y) : ∃ a n cap, c = .slice a n cap ∧ n ≤ cap ∧ (a = none → cap = 0) ∧ n ≤ maxLen := by
  rcases Go.Deep.open_slice ht h with ⟨hcs, _⟩ | ⟨x, l, c', m, n, D, Pl, hcs, _, hl, hm, _⟩
  · simp at hcs
    exact ⟨none, 0, 0, hcs, Nat.le_refl _, fun _ => rfl, Nat.zero_le _⟩
  · simp at hcs
    exact ⟨some x, l, c', hcs, hl, (fun h => by cases h), Nat.le_trans hl hm⟩
theorem list_ofR {α : Type} (n : Nat) (Q : Nat → α → Prop) (h : ∀ i, i < n → ∃ x, Q i x) : ∃ l : List α, l.length = n ∧ ∀ i x, l[i]? = some x → Q i x := by
  induction n with
  | zero => exact ⟨[], rfl, fun i x h => by simp at h⟩
  | succ n ih =>
    obtain ⟨l, h1, h2⟩ := ih (fun i hi => h i (by omega))
    obtain ⟨x, hx⟩ := h n (by omega)
    refine ⟨l ++ [x], by simp [h1], fun i y hy => ?_⟩
    rcases Nat.lt_or_ge i l.length with hi | hi
    · rw [List.getElem?_append_left hi] at hy; exact h2 i y hy
    · rw [List.getElem?_append_right hi] at hy
      have h0 : i - l.length = 0 := by have := (List.getElem?_eq_some_iff.1 hy).1; simpa using this
      rw [h0] at hy
      simp at hy
      subst hy
      obtain rfl : i = n := by omega
      exact hx
theorem part_open {fuel : Nat} {cs : List Value} {y : DataW H × List MemPlace} (h : DataW.trod enc Try.prog w base (fun _ => true) held fuel 56 cs = some y) : ∃ x : Pt, cs = ptc x := by
  obtain ⟨hl, m, hf⟩ := field_read Try.underlying56 h
  rw [cellsPt] at hl
  obtain ⟨c0, c1, c2, rfl⟩ := len3R hl
  obtain ⟨y0, t0⟩ := hf 0 _ c0 rfl (by kernel_rfl) rfl
  obtain ⟨y1, t1⟩ := hf 1 _ c1 rfl (by kernel_rfl) rfl
  obtain ⟨y2, t2⟩ := hf 2 _ c2 rfl (by kernel_rfl) rfl
  obtain ⟨a0, k0, _, _⟩ := DataW.trod_string Try.underlying9 t0
  obtain ⟨a1, k1, _, _⟩ := DataW.trod_int Try.underlying3 t1
  obtain ⟨a2, k2, _, _⟩ := DataW.trod_int Try.underlying3 t2
  simp at k0 k1 k2
  subst k0 k1 k2
  exact ⟨⟨a0, a1, a2⟩, rfl⟩
theorem root_open {fuel : Nat} {cs : List Value} {y : DataW H × List MemPlace} (h : DataW.trod enc Try.prog w base (fun _ => true) held fuel 58 cs = some y) : ∃ x : Rt, cs = rtc x := by
  obtain ⟨hl, m, hf⟩ := field_read Try.underlying58 h
  rw [cellsRt] at hl
  obtain ⟨c0, c1, rfl⟩ := len2R hl
  obtain ⟨y0, t0⟩ := hf 0 _ c0 rfl (by kernel_rfl) rfl
  obtain ⟨y1, t1⟩ := hf 1 _ c1 rfl (by kernel_rfl) rfl
  obtain ⟨a0, k0, _, _⟩ := DataW.trod_string Try.underlying9 t0
  obtain ⟨a1, k1, _, _⟩ := DataW.trod_int Try.underlying3 t1
  simp at k0 k1
  subst k0 k1
  exact ⟨⟨a0, a1⟩, rfl⟩
theorem parts_open {fuel : Nat} {c : Value} {y : DataW H × List MemPlace} (h : DataW.trod enc Try.prog w base (fun _ => true) held fuel 52 [c] = some y) (hw : ∀ k ∈ y.1.weights Try.prog 52, k ≤ 140737488351232) :
    ∃ a cap l, c = .slice a l.length cap ∧ l.length ≤ cap ∧ (a = none → cap = 0) ∧ PRow w a l ∧ l.length ≤ 4398046510976 := by
  obtain ⟨a, n, cap, rfl, hc, hz, _⟩ := slice_formR Try.underlying52 h
  have hb : n ≤ 4398046510976 := by
    rcases slice_weightR Try.underlying52 h with h0 | ⟨k, h1, h2⟩
    · omega
    · have := hw _ h2
      rw [bytesPt] at this
      omega
  rcases structs_read Try.underlying52 (by rw [cellsPt]; omega) h with h0 | ⟨b, off, m, rfl, hbl, hlc, hcm, hel⟩
  · subst h0
    exact ⟨a, cap, [], rfl, hc, hz, .inl rfl, by simp⟩
  · rw [cellsPt] at hel
    obtain ⟨N, hN, hQ⟩ := list_ofR n (fun i (x : Pt) => ∀ j, j < 3 → w.cell? ⟨b, off + i * 3 + j, none⟩ = (ptc x)[j]?) (fun i hi => by
      obtain ⟨cs, z, _, hcell, ht⟩ := hel i hi
      obtain ⟨x, rfl⟩ := part_open ht
      exact ⟨x, hcell⟩)
    subst hN
    exact ⟨some ⟨b, off, none⟩, cap, N, rfl, hc, hz, .inr ⟨b, off, rfl, hbl, fun i x hx => hQ i x hx⟩, hb⟩
theorem roots_open {fuel : Nat} {c : Value} {y : DataW H × List MemPlace} (h : DataW.trod enc Try.prog w base (fun _ => true) held fuel 23 [c] = some y) (hw : ∀ k ∈ y.1.weights Try.prog 23, k ≤ 140737488351232) :
    ∃ a cap l, c = .slice a l.length cap ∧ l.length ≤ cap ∧ (a = none → cap = 0) ∧ RRow w a l ∧ l.length ≤ 5864062014634 := by
  obtain ⟨a, n, cap, rfl, hc, hz, _⟩ := slice_formR Try.underlying23 h
  have hb : n ≤ 5864062014634 := by
    rcases slice_weightR Try.underlying23 h with h0 | ⟨k, h1, h2⟩
    · omega
    · have := hw _ h2
      rw [bytesRt] at this
      omega
  rcases structs_read Try.underlying23 (by rw [cellsRt]; omega) h with h0 | ⟨b, off, m, rfl, hbl, hlc, hcm, hel⟩
  · subst h0
    exact ⟨a, cap, [], rfl, hc, hz, .inl rfl, by simp⟩
  · rw [cellsRt] at hel
    obtain ⟨N, hN, hQ⟩ := list_ofR n (fun i (x : Rt) => ∀ j, j < 2 → w.cell? ⟨b, off + i * 2 + j, none⟩ = (rtc x)[j]?) (fun i hi => by
      obtain ⟨cs, z, _, hcell, ht⟩ := hel i hi
      obtain ⟨x, rfl⟩ := root_open ht
      exact ⟨x, hcell⟩)
    subst hN
    exact ⟨some ⟨b, off, none⟩, cap, N, rfl, hc, hz, .inr ⟨b, off, rfl, hbl, fun i x hx => hQ i x hx⟩, hb⟩
/-- What may be copied. -/
def WtT (T : List Ty) : Prop := T.length ≤ 2932031007401 ∧ ∀ t ∈ T, t.ps.length ≤ 4398046510976
theorem WtT.lens {T : List Ty} (h : WtT T) : LensT T := ⟨by have := h.1; omega, fun t ht => by have := h.2 t ht; omega⟩
theorem type_open {fuel : Nat} {cs : List Value} {y : DataW H × List MemPlace} (h : DataW.trod enc Try.prog w base (fun _ => true) held fuel 54 cs = some y) (hw : ∀ k ∈ y.1.weights Try.prog 54, k ≤ 140737488351232) :
    ∃ (t : Ty) (va : Option Addr) (vc : Nat), cs = tyc t (.slice va t.ps.length vc) ∧ t.ps.length ≤ vc ∧ (va = none → vc = 0) ∧ PRow w va t.ps ∧ t.ps.length ≤ 4398046510976 := by
  obtain ⟨hl, m, hf⟩ := field_weigh Try.underlying54 h
  rw [cellsTy] at hl
  obtain ⟨c0, c1, c2, c3, rfl⟩ := len4R hl
  obtain ⟨y0, t0, _⟩ := hf 0 _ c0 rfl (by kernel_rfl) rfl
  obtain ⟨y1, t1, _⟩ := hf 1 _ c1 rfl (by kernel_rfl) rfl
  obtain ⟨y2, t2, _⟩ := hf 2 _ c2 rfl (by kernel_rfl) rfl
  obtain ⟨y3, t3, u3⟩ := hf 3 _ c3 rfl (by kernel_rfl) rfl
  obtain ⟨a0, k0, _, _⟩ := DataW.trod_int Try.underlying3 t0
  obtain ⟨a1, k1, _, _⟩ := DataW.trod_int Try.underlying3 t1
  obtain ⟨a2, k2, _, _⟩ := DataW.trod_int Try.underlying3 t2
  obtain ⟨va, vc, N, rfl, e1, e2, e3, e4⟩ := parts_open t3 (fun k hk => hw k (u3 k hk))
  simp at k0 k1 k2
  subst k0 k1 k2
  exact ⟨⟨a0, a1, a2, N⟩, va, vc, rfl, e1, e2, e3, e4⟩
theorem types_open {fuel : Nat} {c : Value} {y : DataW H × List MemPlace} (h : DataW.trod enc Try.prog w base (fun _ => true) held fuel 22 [c] = some y) (hw : ∀ k ∈ y.1.weights Try.prog 22, k ≤ 140737488351232) :
    ∃ a cap T, c = .slice a T.length cap ∧ T.length ≤ cap ∧ (a = none → cap = 0) ∧ TRow w a T ∧ WtT T := by
  obtain ⟨a, n, cap, rfl, hc, hz, _⟩ := slice_formR Try.underlying22 h
  have hb : n ≤ 2932031007401 := by
    rcases slice_weightR Try.underlying22 h with h0 | ⟨k, h1, h2⟩
    · omega
    · have := hw _ h2
      rw [bytesTy] at this
      omega
  rcases structs_weigh Try.underlying22 (by rw [cellsTy]; omega) h with h0 | ⟨b, off, m, rfl, hbl, hlc, hcm, hel⟩
  · subst h0
    exact ⟨a, cap, [], rfl, hc, hz, .inl rfl, by simp, fun d hd => by cases hd⟩
  · rw [cellsTy] at hel
    obtain ⟨D, hD, hQ⟩ := list_ofR n (fun i (d : Ty) => d.ps.length ≤ 4398046510976 ∧ ∃ va vc, (∀ j, j < 4 → w.cell? ⟨b, off + i * 4 + j, none⟩ = (tyc d (.slice va d.ps.length vc))[j]?) ∧ d.ps.length ≤ vc ∧ (va = none → vc = 0) ∧ PRow w va d.ps) (fun i hi => by
      obtain ⟨cs, z, _, hcell, ht, hzz⟩ := hel i hi
      obtain ⟨d, va, vc, rfl, e1, e2, e3, e4⟩ := type_open ht (fun k hk => hw k (hzz k hk))
      exact ⟨d, e4, va, vc, hcell, e1, e2, e3⟩)
    subst hD
    refine ⟨some ⟨b, off, none⟩, cap, D, rfl, hc, hz, .inr ⟨b, off, rfl, hbl, fun i d hd => (hQ i d hd).2⟩, hb, fun d hd => ?_⟩
    obtain ⟨i, hi, rfl⟩ := List.getElem_of_mem hd
    exact (hQ i _ (List.getElem?_eq_getElem hi)).1
theorem schema_open {fuel : Nat} {cs : List Value} {y : DataW H × List MemPlace} (h : DataW.trod enc Try.prog w base (fun _ => true) held fuel 25 cs = some y) (hw : ∀ k ∈ y.1.weights Try.prog 25, k ≤ 140737488351232) :
    ∃ a cap T ar cr R, cs = [.slice a T.length cap, .slice ar R.length cr] ∧ T.length ≤ cap ∧ (a = none → cap = 0) ∧ TRow w a T ∧ WtT T ∧ R.length ≤ cr ∧ (ar = none → cr = 0) ∧ RRow w ar R ∧ R.length ≤ 5864062014634 := by
  obtain ⟨hl, m, hf⟩ := field_weigh Try.underlying25 h
  rw [cellsSc] at hl
  obtain ⟨c0, c1, rfl⟩ := len2R hl
  obtain ⟨y0, t0, u0⟩ := hf 0 _ c0 rfl (by kernel_rfl) rfl
  obtain ⟨y1, t1, u1⟩ := hf 1 _ c1 rfl (by kernel_rfl) rfl
  obtain ⟨a, cap, T, rfl, e1, e2, e3, e4⟩ := types_open t0 (fun k hk => hw k (u0 k hk))
  obtain ⟨ar, cr, R, rfl, f1, f2, f3, f4⟩ := roots_open t1 (fun k hk => hw k (u1 k hk))
  exact ⟨a, cap, T, ar, cr, R, rfl, e1, e2, e3, e4, f1, f2, f3, f4⟩
end Go.Proofs.Ytepmgbfdmbogiaa
/- LowerFront, out of its walk. The frame round the walk is that of the tool proof-skeleton. -/
namespace Go.Proofs.Ytepmgbfdmbogiaa.lowerFront
open Go.ChangeShapes Go.WideShapes Go.ChangeAt Go.RowKit
set_option linter.unusedVariables false

theorem own : ownKnob Try.prog.godebug = none := by kernel_rfl
theorem laidOut : laidOutB Try.prog = true := by kernel_rfl
theorem cellsI : Try.prog.cellsOf 3 = 1 := by kernel_rfl

set_option maxRecDepth 100000 in
theorem lifted (os : Os) (started : os.Started) (H : Type) (enc : TypeId × Value → H) :
    ReturnsInHanded {} Try.checked os 3 .any (Rows.lowerFrontSpec.pre6 enc Try.prog Try.f3 Rows.lowerFrontRow.domain false) (Rows.lowerFrontSpec.post enc Try.prog Try.f3 false true false false) := by
  refine returnsInHanded_of_change_sized (C := Try.checked) own started (by kernel_rfl) Try.func3
    (ChangeSpec.witness6 (enc := enc) (C := Try.checked) false ⟨#[], #[.agg #[.slice none 0 0, .slice none 0 0], .int .i64 0], []⟩ 8 (by kernel_rfl) (by kernel_rfl) (by kernel_rfl) (by kernel_rfl)) ?_
  intro W base args ds gs before hval0 hW hcnd hsz0 _
  have hval : ∀ (j : Nat) t v, Try.f3.params[j]? = some t → args[j]? = some v → Value.okWide Try.prog W .any base t v := hval0
  have hsz : (DataW.weightsEach Try.prog (Try.f3.params.toList ++ Rows.lowerFrontSpec.plain.varTypes Try.prog) (ds ++ gs)).all (· ≤ reachBytes) = true := hsz0
  have hW' := hW
  obtain ⟨p, q, hA0, hV, rfl, hfz, hnd⟩ := hW
  have hA : DataW.TrodAll enc Try.prog W 0 (fun _ => true) true Try.f3.params.toList args.toList ds p := hA0
  rw [Try.params3] at hA hval hsz
  obtain ⟨v0, vs0, d0, ds0, p0, q0, hargs, rfl, rfl, h0, r0⟩ := trodAll_cons hA
  obtain ⟨v1, vs1, d1, ds1, p1, q1, rfl, rfl, rfl, h1, r1⟩ := trodAll_cons r0
  obtain ⟨rfl, rfl, rfl⟩ := trodAll_nil r1
  obtain rfl : args = #[v0, v1] := by cases args; simp_all
  obtain ⟨rfl, rfl⟩ := trodVars_none hV
  obtain ⟨cs0, rfl, _⟩ := okWide_struct Try.underlying25 (hval 0 25 v0 rfl rfl)
  have k0 := h0
  have lt0 : ∀ x ∈ p0, x.block < W.heap.size := by obtain ⟨m, hm⟩ := k0; exact DataW.trod_lt m _ _ _ hm
  obtain ⟨n1, rfl, rfl, rfl, w1⟩ := open_int Try.underlying3 (hval 1 3 v1 rfl rfl) h1
  have hN1 := bounds_i64 w1
  have walk : Calls Try.prog 3 #[.agg cs0, .int .i64 n1] W fun e w' => e = .returned (.bool true) ∧ Below W.heap.size W w' := by
    obtain ⟨fuel0, hf0⟩ := h0
    obtain ⟨a0, cap0, T0, ar0, cr0, R0, hcs0, hcT0, hnT0, hT0, hwT0, hcR0, hnR0, hR0, hwR0⟩ := schema_open hf0 (fun n hn => by
      have hm := List.all_eq_true.1 hsz _ (DataW.weights_mem_each (j := 0) rfl rfl _ hn)
      have hm2 : n ≤ reachBytes := of_decide_eq_true hm
      rw [show reachBytes = 140737488351232 from rfl] at hm2
      exact hm2)
    have e0 : cs0 = #[.slice a0 T0.length cap0, .slice ar0 R0.length cr0] := by
      have : cs0.toList = [.slice a0 T0.length cap0, .slice ar0 R0.length cr0] := hcs0
      exact Array.toList_inj.1 this
    subst e0
    exact front_any a0 cap0 T0 ar0 cr0 R0 n1 W hN1 (by have := hwT0.1; omega) hwR0 (hide_ hwT0.2) (hide_ hT0) (hide_ hR0)
  clear hA0 hval0
  refine walk.mono fun e W' ⟨he, bel⟩ => ?_
  subst he
  exact ⟨_, rfl, _, _, _, [], _, [], hW', trodAll_mk1 (shut_bool Try.underlying4 _), (trodAll_cons_mk (Below.trod laidOut (by kernel_rfl) (of_decide_eq_true (by kernel_rfl)) k0 bel lt0) (trodAll_cons_mk (shut_int Try.underlying3 w1) trodAll_mk0)), rfl, bel.frame _, fun h => by cases h⟩

theorem over : Rows.lowerFrontRow.holds Try.pinned (OpenSpec.ofChange Rows.lowerFrontSpec) :=
  OpenClaim.holds_of_wide 3 Try.f3 rfl rfl rfl rfl rfl rfl rfl ⟨rfl, rfl, rfl, rfl, rfl⟩ rfl rfl rfl rfl rfl (by kernel_rfl) Try.func3 (by kernel_rfl)
    (of_decide_eq_true (by kernel_rfl)) (by unfold Func.isWrapper; first | (rw [if_pos (by decide +kernel)]; kernel_rfl) | (rw [if_neg (by decide +kernel)]; exact ⟨rfl, rfl⟩))
    (fun os started H enc _ => lifted os started H enc)

theorem proved : Rows.LowerFrontSaid := over
end Go.Proofs.Ytepmgbfdmbogiaa.lowerFront
namespace Go.Proofs.Ytepmgbfdmbogiaa
theorem lowerFront_holds : Rows.LowerFrontSaid := lowerFront.proved
#print axioms lowerFront_holds
end Go.Proofs.Ytepmgbfdmbogiaa
