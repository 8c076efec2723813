/- typing.Types. -/
import Derived.Test.YtlfjcihhcphjkaaDoorOj
import Derived.Test.YtlfjcihhcphjkaaDoorOk
import Derived.Laws.MakeOwn
namespace Go.Proofs.YtlfjcihhcphjkaaDoor
open Go.RowKit
set_option linter.unusedVariables false

theorem retTF {fn : Func} {u p : Tmp} (h : fn.results = #[.tmp u, .cell p 42]) {R : Ending → World → Prop} {tmps : Array Value} {g : Nat} {w : World} {v : Value} {x y : Int} (hu : tmps.getD u undef = v) (hp : tmps.getD p undef = .pointer (some ⟨g, 0, none⟩)) (hK : Blk w g 42 [.int .i64 x, .int .i64 y]) (hR : R (.returned (.tuple #[v, .agg #[.int .i64 x, .int .i64 y]])) w) :
    bodyPost Tryd.prog fn R Exit.ret ⟨tmps, []⟩ w :=
  bodyPost_ret (results_tmp_cell_row h _ _ _ _ #[.int .i64 x, .int .i64 y] _ _ hp (show w.heap[g]? = some (.cells #[.int .i64 x, .int .i64 y] 42 (0, 0)) from hK) Tryd.underlying42 rfl (by show _ = some 2; kernel_rfl)) rfl (by rw [hu]; exact hR)
theorem IOwn.base {w : World} {B B' : Nat} {v : Value} {l : List Int} (h : IOwn w B v l) (hb : B' ≤ B) : IOwn w B' v l := own_base h hb
theorem run_mk0 (c : Nat) (hc : c ≤ 100000000) (w : World) : (Instr.makeSlice 26 (.int .i64 0) (.int .i64 (c : Int))).run Tryd.prog w = .ok (.slice (some ⟨w.heap.size, 0, none⟩) 0 c) (w.alloc (.cells (madeCells #[.int .i64 0] c) 3)) := by
  obtain ⟨i0, hi, hz0, hz1, hz2⟩ := info_parts elI.info
  have h := run_make (P := Tryd.prog) w 26 3 i0 (.int .i64 0) elI.sl hi hz0 .i64 .i64 0 c (Int.le_refl _) (by omega) (by rw [hz2]; omega) (by omega)
  simp only [Int.toNat_zero, Int.toNat_natCast, hz1, Nat.mul_one] at h
  exact h
theorem own_mk0 (w : World) (B c : Nat) (hB : B ≤ w.heap.size) (hc : c ≤ 100000000) : IOwn (w.alloc (.cells (madeCells #[.int .i64 0] c) 3)) B (.slice (some ⟨w.heap.size, 0, none⟩) 0 c) [] := by
  have h := World.ownsRow_made (size := 1) (e := 3) w (madeCells #[.int .i64 0] c) c hB (by unfold maxLen; omega) (by rw [size_madeCells]; simp)
  exact h
theorem own_one (w : World) (B : Nat) (x : Int) (hB : B ≤ w.heap.size) : IOwn (w.alloc (.cells #[.int .i64 x] 3)) B (.slice (some ⟨w.heap.size, 0, none⟩) 1 1) [x] := by
  have h := ownS_of_blk (B := B) (n := 1) (c := 1) (cap := 1) (Blk.newA w #[.int .i64 x] 3) hB rfl (by decide) (by unfold maxLen; omega)
  exact h
theorem IOwn.at {w : World} {B g n cap i : Nat} {l : List Int} (h : IOwn w B (.slice (some ⟨g, 0, none⟩) n cap) l) (hi : i < l.length) : w.cell? ⟨g, i, none⟩ = some (.int .i64 (l.getD i 0)) := by
  obtain ⟨a, c, e, -, -, -, -, hx⟩ := own_open h rfl
  obtain ⟨g', e2, -, -, hc, -⟩ := hx (by omega)
  injection e with e _ _
  rw [← e] at e2
  injection e2 with e2
  injection e2 with e2 _ _
  subst e2
  exact hc i hi
theorem rev_top (s : Int) (r : List Int) : ((s :: r).reverse).getD r.length 0 = s := by
  simp [List.getD]
theorem rev_take (s : Int) (r : List Int) : ((s :: r).reverse).take r.length = r.reverse := by
  rw [List.reverse_cons, List.take_left' (by simp)]
theorem below_to3 {B : Nat} {a b c : World} {S : Nat → Prop} (h : Below B a b) (hu : Upd S b c) (hs : ∀ k, S k → B ≤ k) (hB : B ≤ a.heap.size := by exact Nat.le_refl _) : Below B a c := h.trans (hu.below B (Nat.le_trans hB h.size) hs)
/-- Types' memory at a round's head. -/
structure TyS (w wr : World) (a b : Value) (nv pv : Value) (nums st : List Int) : Prop where
  sch : Blk wr w.heap.size 25 [a, b]
  flt : Blk wr (w.heap.size + 1) 42 [.int .i64 0, .int .i64 0]
  num : IOwn wr w.heap.size nv nums
  pen : IOwn wr w.heap.size pv st.reverse
  ne : ∀ k, nv.ownBlock = some k → ¬ pv.ownBlock = some k
  bel : Below w.heap.size w wr
theorem IOwn.ne {w : World} {B : Nat} {v : Value} {l : List Int} (h : IOwn w B v l) {k : Nat} {t : TypeId} {ys : List Value} (hb : Blk w k t ys) (ht : t ≠ 3) : ¬ v.ownBlock = some k := fun e => by
  obtain ⟨zs, hz⟩ := ownS_type h e
  exact ht (blk_type hb hz)
set_option maxRecDepth 100000 in
set_option maxHeartbeats 8000000 in
theorem types_any (aT : Option Addr) (cT : Nat) (T : List Ty) (aR : Option Addr) (cR : Nat) (R : List Rt) (t : Int) (aV : Option Addr) (cV : Nat) (V : List Nv) (w : World) (hn : T.length ≤ 10000000000000) (hm : R.length ≤ 10000000000000) (hV : V.length ≤ 2000000) (hl : Hid (LensT T)) (hT : Hid (TRow w aT T)) (hRr : Hid (RRow w aR R)) (hVr : Hid (VRow w aV V)) (ht : Hid (Tab w)) :
    Calls Tryd.prog 17 #[.agg #[.slice aT T.length cT, .slice aR R.length cR], .int .i64 t, .slice aV V.length cV] w fun e w' => ∃ v', e = .returned (.tuple #[v', .agg #[.int .i64 (tyV T R t V).2.1, .int .i64 (tyV T R t V).2.2]]) ∧ Hid (IOwn w' w.heap.size v' (tyV T R t V).1) ∧ Hid (Below w.heap.size w w') := by
  have hmk := run_mk0 V.length (by omega)
  obtain ⟨w1, hw1⟩ : ∃ wx, wx = w.alloc (.cells #[.slice aT T.length cT, .slice aR R.length cR] 25) := ⟨_, rfl⟩
  have b1 : Below w.heap.size w w1 := by rw [hw1]; exact below1 _ _
  have k1 : Blk w1 w.heap.size 25 [.slice aT T.length cT, .slice aR R.length cR] := by rw [hw1]; exact Blk.newA w _ _
  have s1 : w1.heap.size = w.heap.size + 1 := by rw [hw1]; simp
  obtain ⟨w2, hw2⟩ : ∃ wx, wx = w1.alloc (.cells #[.int .i64 0, .int .i64 0] 42) := ⟨_, rfl⟩
  have b2 : Below w1.heap.size w1 w2 := by rw [hw2]; exact below1 _ _
  have k2 : Blk w2 w1.heap.size 42 [.int .i64 0, .int .i64 0] := by rw [hw2]; exact Blk.newA w1 _ _
  rw [s1] at k2
  have hB := below_to b1 b2
  have K1 := hide_ (k1.later b2)
  have K2 := hide_ k2
  have HB := hide_ hB
  have HCk := hide_ (checkType_any aT cT T aR cR R t w2 hn hm hl (hide_ (hT.out.later hB)) (hide_ (hRr.out.later hB)))
  have i0 := K1.out.cell 0; have i1 := K1.out.cell 1
  simp at i0 i1
  clear b1 b2 k1 k2 s1 hB
  go_enter Tryd.func17, Tryd.ntmps17
  go_upto_region 1 with fail
  rw [← hw1, ← hw2]
  clear hw1 hw2
  go_wp2_with fail
  refine HCk.out.mono ?_
  rintro e w3 ⟨rfl, hB3⟩
  clear HCk
  have HB3 := hide_ (below_to HB.out hB3)
  have HF : Hid (ckT T R t = ((ckT T R t).1, (ckT T R t).2)) := hide_ rfl
  have HV0 : Hid (tyV T R t V = if (ckT T R t).1 ≠ 0 then ([], ckT T R t) else if (chkV 1 0 V).1 ≠ 0 then ([], chkV 1 0 V) else wkT T [t] V 0) := hide_ (by
    unfold tyV ckT
    by_cases h1 : (chk T R).1 = 0
    · by_cases h2 : t < 0 ∨ (T.length : Int) ≤ t
      · simp [h1, h2]
      · simp [h1, h2]
    · simp [h1])
  have HOk : Hid ((ckT T R t).1 = 0 → OkS T R ∧ 0 ≤ t ∧ t < T.length) := hide_ (fun h => by
    unfold ckT at h
    by_cases h1 : (chk T R).1 = 0
    · rw [if_neg (by simp [h1])] at h
      by_cases h2 : t < 0 ∨ (T.length : Int) ≤ t
      · rw [if_pos h2] at h; cases h
      · exact ⟨okS_of h1, by omega⟩
    · rw [if_pos h1] at h; exact absurd h h1)
  generalize (ckT T R t).1 = e1 at *
  generalize (ckT T R t).2 = e2 at *
  have k3 := Blk.newA w3 #[.int .i64 e1, .int .i64 e2] 42
  have hB4 := below1 w3 (.cells #[.int .i64 e1, .int .i64 e2] 42)
  have k14 := (K1.out.later hB3).later hB4
  have k24 := (K2.out.later hB3).later hB4
  have hB4f := below_to HB3.out hB4
  obtain ⟨w4, hw4⟩ : ∃ w4, w4 = w3.alloc (.cells #[.int .i64 e1, .int .i64 e2] 42) := ⟨_, rfl⟩
  rw [← hw4] at k3 k14 k24 hB4f
  have K3 := hide_ k3
  have K14 := hide_ k14
  have K24 := hide_ k24
  have HB4 := hide_ hB4f
  have p0 := K3.out.cell 0; have p1 := K3.out.cell 1
  have q0 := K24.out.cell 0; have q1 := K24.out.cell 1
  have f2 := fun i => K24.out.frozen i
  simp at p0 p1 q0 q1
  clear hB3 hB4 hB4f k3 k14 k24 i0 i1
  go_upto_region 2 with fail
  rw [← hw4]
  clear hw4
  by_cases hc : e1 = 0
  · subst hc
    rw [if_neg (by simp)] at HV0
    obtain ⟨hS, ht0, ht1⟩ := HOk.out rfl
    have HSo := hide_ hS
    have HCv := hide_ (checkV_any aV V.length cV V w4 rfl (by omega) (hide_ (hVr.out.later HB4.out)))
    unfold fltv at HCv
    clear HF HOk hS
    go_wp2_with fail
    refine HCv.out.mono ?_
    rintro e w5 ⟨rfl, hB5⟩
    clear HCv
    have HVe : Hid (chkV 1 0 V = ((chkV 1 0 V).1, (chkV 1 0 V).2)) := hide_ rfl
    have HCo : Hid ((chkV 1 0 V).1 = 0 → (chkV 1 0 V).1 = 0) := hide_ id
    obtain ⟨d1, hd1⟩ : ∃ d1, (chkV 1 0 V).1 = d1 := ⟨_, rfl⟩
    obtain ⟨d2, hd2⟩ : ∃ d2, (chkV 1 0 V).2 = d2 := ⟨_, rfl⟩
    have HD1 := hide_ hd1
    rw [hd1, hd2] at HVe
    rw [hd1] at HV0
    simp only [hd1, hd2]
    clear hd1 hd2 HCo
    have k5 := Blk.newA w5 #[.int .i64 d1, .int .i64 d2] 42
    have hB6 := below1 w5 (.cells #[.int .i64 d1, .int .i64 d2] 42)
    have k16 := (K14.out.later hB5).later hB6
    have k26 := (K24.out.later hB5).later hB6
    have hB6f := below_to (below_to HB4.out hB5) hB6
    obtain ⟨w6, hw6⟩ : ∃ w6, w6 = w5.alloc (.cells #[.int .i64 d1, .int .i64 d2] 42) := ⟨_, rfl⟩
    rw [← hw6] at k5 k16 k26 hB6f
    have K5 := hide_ k5
    have K16 := hide_ k16
    have K26 := hide_ k26
    have HB6 := hide_ hB6f
    clear q0 q1 f2 p0 p1 K3
    have p0 := K5.out.cell 0; have p1 := K5.out.cell 1
    have q0 := K26.out.cell 0; have q1 := K26.out.cell 1
    have f2 := fun i => K26.out.frozen i
    simp at p0 p1 q0 q1
    clear hB5 hB6 hB6f k5 k16 k26 K14 K24
    go_upto_region 5 with fail
    rw [← hw6]
    clear hw6
    by_cases hd : d1 = 0
    · subst hd
      rw [if_neg (by simp)] at HV0
      have HW0 := hide_ (WkI.start ht0 ht1 HD1.out)
      obtain ⟨w7, hw7⟩ : ∃ wx, wx = w6.alloc (.cells (madeCells #[.int .i64 0] V.length) 3) := ⟨_, rfl⟩
      have o7 : IOwn w7 w.heap.size (.slice (some ⟨w6.heap.size, 0, none⟩) 0 V.length) [] := by rw [hw7]; exact own_mk0 w6 _ _ HB6.out.size (by omega)
      have b7 : Below w6.heap.size w6 w7 := by rw [hw7]; exact below1 _ _
      obtain ⟨w8, hw8⟩ : ∃ wx, wx = w7.alloc (.cells #[.int .i64 t] 3) := ⟨_, rfl⟩
      have o8 : IOwn w8 w.heap.size (.slice (some ⟨w7.heap.size, 0, none⟩) 1 1) [t] := by rw [hw8]; exact own_one w7 _ _ (Nat.le_trans HB6.out.size b7.size)
      have b8 : Below w7.heap.size w7 w8 := by rw [hw8]; exact below1 _ _
      have hz7 : w6.heap.size < w7.heap.size := by rw [hw7]; simp
      have HS8 : Hid (TyS w w8 (.slice aT T.length cT) (.slice aR R.length cR) (.slice (some ⟨w6.heap.size, 0, none⟩) 0 V.length) (.slice (some ⟨w7.heap.size, 0, none⟩) 1 1) [] [t]) := hide_ ⟨(K16.out.later b7).later b8, (K26.out.later b7).later b8, o7.later b8, o8, fun k h1 h2 => by have e1 := own_is h1; have e2 := own_is h2; omega, below_to (below_to HB6.out b7) b8⟩
      have hz7e : w7.heap.size = w6.heap.size + 1 := by rw [hw7]; simp
      rw [hz7e] at HS8
      clear o7 o8 b7 b8 hz7 hz7e K16 K26 HB6 HB4 HB3 HB K1 K2 HD1 q0 q1 f2 HVe
      go_wp2_with fail
      rw [← hw7, ← hw8]
      clear hw7 hw8 hmk
      generalize Value.slice (some ⟨w6.heap.size, 0, none⟩) 0 V.length = nv0' at *
      generalize Value.slice (some ⟨w6.heap.size + 1, 0, none⟩) 1 1 = pv0' at *
      go_loopw [10, 11, 37] (fun x10 x11 x37 wr => ∃ (i : Nat) (nums st : List Int) (nv pv : Value), nv = x10 ∧ pv = x11 ∧ i ≤ V.length ∧ x37 = .int .i64 (i : Int) ∧ Hid (WkI T t V i st nums) ∧ Hid (TyS w wr (.slice aT T.length cT) (.slice aR R.length cR) nv pv nums st)) (fun _ _ x37 _ => V.length - (intOf x37).toNat)
      case atStart => exact ⟨0, [], [t], _, _, rfl, rfl, Nat.zero_le _, rfl, HW0, HS8⟩
      case round =>
        obtain ⟨i, nums, st, nv, pv, rfl, rfl, hi, rfl, HW, HM⟩ := hrel
        clear HW0 HS8
        generalize wr = wq at *
        by_cases hlt : i < V.length
        · have hlt' : (i : Int) < V.length := by omega
          have hx : V[i]? = some (V[i]'hlt) := List.getElem?_eq_getElem hlt
          obtain ⟨s, st', rfl, hs0, hs1, hrt, hbad, hgood⟩ := HW.out.next HSo.out hx
          have hsm := HW.out.small
          have hst : (st'.length : Int) ≤ 1999999 := by simp only [List.length_cons] at hsm; omega
          clear hsm
          obtain ⟨sn, rfl⟩ := Int.eq_ofNat_of_zero_le hs0
          have hsl : sn < T.length := by omega
          have hy : T[sn]? = some (T[sn]'hsl) := List.getElem?_eq_getElem hsl
          have hyd : T.getD sn ty0 = T[sn]'hsl := by simp [List.getD, hsl]
          have hok := HSo.out.ty sn hsl
          simp only [Int.toNat_natCast] at hbad hgood
          rw [hyd] at hbad hgood hok
          obtain ⟨bT, oT, rfl, hbT, hcT⟩ := hT.out.open (by omega)
          obtain ⟨va, vc, hty, -, -, hpr⟩ := hcT sn _ hy
          obtain ⟨bV, oV, rfl, hbV, hcV⟩ := hVr.out.open (by omega)
          have hcx := hcV i _ hx
          generalize T[sn]'hsl = y at *
          generalize V[i]'hlt = x at *
          have HOK := hide_ hok
          have HBad := hide_ hbad
          have HGood := hide_ hgood
          have hkd := rightV_kids hrt
          have HPR := hide_ hpr
          have v0 := (HM.out.bel.cell (p := ⟨bV, oV + i * 3 + 0, none⟩) hbV).trans (hcx 0 (by decide))
          have v1 := (HM.out.bel.cell (p := ⟨bV, oV + i * 3 + 1, none⟩) hbV).trans (hcx 1 (by decide))
          have v2 := (HM.out.bel.cell (p := ⟨bV, oV + i * 3 + 2, none⟩) hbV).trans (hcx 2 (by decide))
          simp [nvc] at v0 v1 v2
          have HTY := hide_ hty
          have hlow : y.ps = [] ∨ ∀ z, va = some z → z.block < w.heap.size := by
            rcases hpr with h | ⟨b', o', rfl, hb', -⟩
            · exact .inl h
            · exact .inr (fun z hz => by cases hz; exact hb')
          have HLow := hide_ hlow
          obtain ⟨g, cap, ys, rfl, -, hncap, -, -, hys, hKp⟩ := ownS_blk HM.out.pen (by simp)
          have hlen : (((sn : Int) :: st').reverse).length = st'.length + 1 := by simp
          rw [hlen] at HM hncap ⊢
          have hc0 := (own_blk HM.out.pen (by simp))
          have HW1 := hide_ (Below.refl wq.heap.size wq)
          obtain ⟨w1, hw1⟩ : ∃ wx, wx = wq.alloc (.cells #[.int .i64 x.k, .int .u64 x.n, .int .i64 x.kids] 49) := ⟨_, rfl⟩
          have b1 : Below wq.heap.size wq w1 := by rw [hw1]; exact below1 _ _
          have kn : Blk w1 wq.heap.size 49 (nvc x) := by rw [hw1]; exact Blk.newA wq _ _
          have HB1 := hide_ (below_to HM.out.bel b1)
          have KS1 := hide_ (HM.out.sch.later b1)
          have KN1 := hide_ kn
          have HF1 := hide_ (HM.out.flt.later b1)
          have HN1 := hide_ (HM.out.num.later b1)
          have HP1 := hide_ (HM.out.pen.later b1)
          have HNe := hide_ HM.out.ne
          have cP : w1.cell? ⟨g, st'.length, none⟩ = some (.int .i64 (sn : Int)) := by
            have h := HP1.out.at (i := st'.length) (by simp)
            rw [rev_top] at h
            exact h
          have HSS : Hid (∀ w', Below w.heap.size w w' → Blk w' w.heap.size 25 [.slice (some ⟨bT, oT, none⟩) T.length cT, .slice aR R.length cR] → Blk w' wq.heap.size 49 (nvc x) → (fun w' => w'.cell? ⟨w.heap.size, 0, none⟩ = some (.slice (some ⟨bT, oT, none⟩) T.length cT) ∧ w'.cell? ⟨bT, oT + sn * 4, none⟩ = some (.int .i64 y.k) ∧ w'.cell? ⟨bT, oT + sn * 4 + 1, none⟩ = some (.int .i64 y.n) ∧ w'.cell? ⟨bT, oT + sn * 4 + 2, none⟩ = some (.int .i64 y.e) ∧ w'.cell? ⟨bT, oT + sn * 4 + 3, none⟩ = some (.slice va y.ps.length vc) ∧ w'.cell? ⟨wq.heap.size, 0, none⟩ = some (.int .i64 x.k) ∧ w'.cell? ⟨wq.heap.size, 1, none⟩ = some (.int .u64 x.n) ∧ w'.cell? ⟨wq.heap.size, 2, none⟩ = some (.int .i64 x.kids)) w') := hide_ (fun w' hB k1 k2 => by
            have ht : ∀ j, j < 4 → w'.cell? ⟨bT, oT + sn * 4 + j, none⟩ = (tyc y (.slice va y.ps.length vc))[j]? := fun j hj => (hB.cell (p := ⟨bT, oT + sn * 4 + j, none⟩) hbT).trans (HTY.out j hj)
            exact ⟨k1.cell 0, ht 0 (by decide), ht 1 (by decide), ht 2 (by decide), ht 3 (by decide), k2.cell 0, k2.cell 1, k2.cell 2⟩)
          have HMis : Hid (Calls Tryd.prog 36 #[.agg #[.int .i64 y.k, .int .i64 y.n, .int .i64 y.e, .slice va y.ps.length vc], .agg #[.int .i64 x.k, .int .u64 x.n, .int .i64 x.kids]] w1.drew fun e w' => e = .returned (.int .i64 (misP y x)) ∧ Below w1.drew.heap.size w1.drew w') := hide_ (misfit_any x y.k y.n y.e y.ps va vc sn w1.drew HOK (hide_ (HPR.out.later HB1.out.drew)) (hide_ (ht.out.later HB1.out.drew)))
          clear hx hcx hcV hcT hy hyd hbad hgood hok hty hpr hlow hKp hys hc0 b1 kn HM
          go_upto_region 12 with fail
          rw [← hw1]
          clear hw1
          go_upto_region 14 with fail
          clear cP v0 v1 v2
          refine wp_region_held_drew (S := (fun w' => w'.cell? ⟨w.heap.size, 0, none⟩ = some (.slice (some ⟨bT, oT, none⟩) T.length cT) ∧ w'.cell? ⟨bT, oT + sn * 4, none⟩ = some (.int .i64 y.k) ∧ w'.cell? ⟨bT, oT + sn * 4 + 1, none⟩ = some (.int .i64 y.n) ∧ w'.cell? ⟨bT, oT + sn * 4 + 2, none⟩ = some (.int .i64 y.e) ∧ w'.cell? ⟨bT, oT + sn * 4 + 3, none⟩ = some (.slice va y.ps.length vc) ∧ w'.cell? ⟨wq.heap.size, 0, none⟩ = some (.int .i64 x.k) ∧ w'.cell? ⟨wq.heap.size, 1, none⟩ = some (.int .u64 x.n) ∧ w'.cell? ⟨wq.heap.size, 2, none⟩ = some (.int .i64 x.kids))) (by kernel_rfl) (HSS.out _ HB1.out.drew KS1.out KN1.out) (fun hHeld => ?_)
          refine wpAnyH_take (i := 0) (v := ?vm1) rfl (by kernel_rfl) (by kernel_rfl) (by kernel_rfl) (fun _ _ _ h => h) (Or.inl ⟨by rfl, ?hym1⟩) hHeld ?restm1
          case hym1 => intro w' hSw; (try dsimp only at hSw); go_simp; try with_reducible rfl
          simp only [Act.put]
          refine wpAnyH_take (i := 1) (v := ?vm2) rfl (by kernel_rfl) (by kernel_rfl) (by kernel_rfl) (fun _ _ _ h => h) (Or.inl ⟨by rfl, ?hym2⟩) hHeld ?restm2
          case hym2 => intro w' hSw; (try dsimp only at hSw); go_simp; try with_reducible rfl
          simp only [Act.put]
          refine wpAnyH_take (i := 2) (v := ?vm3) rfl (by kernel_rfl) (by kernel_rfl) (by kernel_rfl) (fun _ _ _ h => h) (Or.inl ⟨by rfl, ?hym3⟩) hHeld ?restm3
          case hym3 => intro w' hSw; (try dsimp only at hSw); go_simp; try with_reducible rfl
          simp only [Act.put]
          refine wpAnyH_take (i := 3) (v := ?vm4) rfl (by kernel_rfl) (by kernel_rfl) (by kernel_rfl) (fun _ _ _ h => h) (Or.inl ⟨by rfl, ?hym4⟩) hHeld ?restm4
          case hym4 => intro w' hSw; (try dsimp only at hSw); go_simp; try with_reducible rfl
          simp only [Act.put]
          refine wpAnyH_take (i := 4) (v := ?vm5) rfl (by kernel_rfl) (by kernel_rfl) (by kernel_rfl) (fun _ _ _ h => h) (Or.inl ⟨by rfl, ?hym5⟩) hHeld ?restm5
          case hym5 => intro w' hSw; (try dsimp only at hSw); go_simp; try with_reducible rfl
          simp only [Act.put]
          refine wpAnyH_take (i := 5) (v := ?vm6) rfl (by kernel_rfl) (by kernel_rfl) (by kernel_rfl) (fun _ _ _ h => h) (Or.inl ⟨by rfl, ?hym6⟩) hHeld ?restm6
          case hym6 => intro w' hSw; (try dsimp only at hSw); go_simp; try with_reducible rfl
          simp only [Act.put]
          refine wpAnyH_ready (rs := [6]) (by kernel_rfl) (by simp) ?_
          refine AllReadyH.cons rfl (fun K hK => ?_) AllReadyH.nil
          go_simp
          refine HMis.out.mono ?_
          rintro e w2 ⟨rfl, hB2⟩
          have hB2' := below_to ((Below.refl w1.heap.size w1).drew) hB2
          have HB2 := hide_ (below_to HB1.out hB2')
          have KS2 := hide_ (KS1.out.later hB2')
          have KN2 := hide_ (KN1.out.later hB2')
          have HF2 := hide_ (HF1.out.later hB2')
          have HN2 := hide_ (HN1.out.later hB2')
          have HP2 := hide_ (HP1.out.later hB2')
          have HHS2 := hide_ (HSS.out _ HB2.out KS2.out KN2.out)
          clear hB2 hB2'
          dsimp only
          refine hK.out _ _ (HHS2.out) (fun hHeld => ?_)
          clear hK K
          refine wpAnyH_ready (rs := [7]) (by kernel_rfl) (by simp) ?_
          refine AllReadyH.cons rfl (fun K hK => ?_) AllReadyH.nil
          go_simp
          refine hK.out _ _ (HHS2.out) (fun hHeld => ?_)
          clear hK K
          refine wpAnyH_done (by kernel_rfl) ?_ _
          by_cases hmz : misP y x = 0
          · have HWn := hide_ (HGood.out hmz)
            have HMz := hide_ hmz
            obtain ⟨gn, capn, w3, hrun, ho3, hu3, hl3⟩ := HN2.out.push (sn : Int) (by rw [HW.out.len]; omega) HB2.out.size
            have HRn := hide_ hrun
            have HB3 := hide_ (below_to3 HB2.out hu3 (fun k hk => (World.ownsRow.lt HN2.out k hk).1))
            have KS3 := hide_ (KS2.out.upd hu3 (HN2.out.ne KS2.out (by decide)))
            have KN3 := hide_ (KN2.out.upd hu3 (HN2.out.ne KN2.out (by decide)))
            have HF3 := hide_ (HF2.out.upd hu3 (HN2.out.ne HF2.out (by decide)))
            have HN3 := hide_ ho3
            have hcut := HP2.out.cut (m := st'.length) (by simp)
            rw [rev_take] at hcut
            have hne2 : ∀ k, nv.ownBlock = some k → ¬ (Value.slice (some ⟨g, 0, none⟩) st'.length cap).ownBlock = some k := fun k h1 h2 => HNe.out k h1 (by have e := own_is h2; subst e; rfl)
            have HC3 := hide_ (hcut.upd hu3 (fun k h1 h2 => hne2 k h2 h1))
            have HNe3 : Hid (∀ k, (Value.slice (some ⟨gn, 0, none⟩) (nums.length + 1) capn).ownBlock = some k → ¬ (Value.slice (some ⟨g, 0, none⟩) st'.length cap).ownBlock = some k) := hide_ (fun k h1 h2 => by
              have e1 := own_is h1
              have e2 := own_is h2
              rcases hl3 with h | h
              · exact hne2 k (by rw [← e1]; exact h) h2
              · have h4 := (World.ownsRow.lt hcut k h2).2
                omega)
            have HPk : Hid (Calls Tryd.prog 32 #[.slice (some ⟨g, 0, none⟩) st'.length cap, .agg #[.int .i64 y.k, .int .i64 y.n, .int .i64 y.e, .slice va y.ps.length vc], .agg #[.int .i64 x.k, .int .u64 x.n, .int .i64 x.kids]] w3.drew fun e w' => ∃ v', e = .returned v' ∧ Hid (PsTo w3.drew w.heap.size (.slice (some ⟨g, 0, none⟩) st'.length cap) (st'.reverse ++ (kidsT y x).reverse) w' v')) := hide_ (push_any (.slice (some ⟨g, 0, none⟩) st'.length cap) st'.reverse w.heap.size y.k y.n y.e y.ps va vc x sn w3.drew HOK HMz hkd (by simp; omega) HB3.out.size (hide_ HC3.out) (hide_ (HPR.out.later HB3.out.drew)) HLow)
            have hcap : (st'.length : Int) ≤ cap := by omega
            clear hrun ho3 hu3 hl3 hcut hne2 HHS2 HGood HBad HMis HP2 HN2 HF2 KN2 KS2 HB2 HP1 HN1 HF1 KN1 KS1 HB1
            rw [hmz]
            go_upto_region 18 with (at_builtin; refine wpList_append_run rfl (.tmp 61) (.tmp 63) 26 26 rfl rfl rfl HRn.out ?_)
            generalize st'.length = m at *
            refine wp_region_held_drew (S := (fun w' => w'.cell? ⟨w.heap.size, 0, none⟩ = some (.slice (some ⟨bT, oT, none⟩) T.length cT) ∧ w'.cell? ⟨bT, oT + sn * 4, none⟩ = some (.int .i64 y.k) ∧ w'.cell? ⟨bT, oT + sn * 4 + 1, none⟩ = some (.int .i64 y.n) ∧ w'.cell? ⟨bT, oT + sn * 4 + 2, none⟩ = some (.int .i64 y.e) ∧ w'.cell? ⟨bT, oT + sn * 4 + 3, none⟩ = some (.slice va y.ps.length vc) ∧ w'.cell? ⟨wq.heap.size, 0, none⟩ = some (.int .i64 x.k) ∧ w'.cell? ⟨wq.heap.size, 1, none⟩ = some (.int .u64 x.n) ∧ w'.cell? ⟨wq.heap.size, 2, none⟩ = some (.int .i64 x.kids))) (by kernel_rfl) (HSS.out _ HB3.out.drew KS3.out KN3.out) (fun hHeld => ?_)
            refine wpAnyH_take (i := 0) (v := ?vn1) rfl (by kernel_rfl) (by kernel_rfl) (by kernel_rfl) (fun _ _ _ h => h) (Or.inl ⟨by rfl, ?hyn1⟩) hHeld ?restn1
            case hyn1 => intro w' hSw; (try dsimp only at hSw); go_simp; try with_reducible rfl
            simp only [Act.put]
            refine wpAnyH_take (i := 1) (v := ?vn2) rfl (by kernel_rfl) (by kernel_rfl) (by kernel_rfl) (fun _ _ _ h => h) (Or.inl ⟨by rfl, ?hyn2⟩) hHeld ?restn2
            case hyn2 => intro w' hSw; (try dsimp only at hSw); go_simp; try with_reducible rfl
            simp only [Act.put]
            refine wpAnyH_take (i := 2) (v := ?vn3) rfl (by kernel_rfl) (by kernel_rfl) (by kernel_rfl) (fun _ _ _ h => h) (Or.inl ⟨by rfl, ?hyn3⟩) hHeld ?restn3
            case hyn3 => intro w' hSw; (try dsimp only at hSw); go_simp; try with_reducible rfl
            simp only [Act.put]
            refine wpAnyH_take (i := 3) (v := ?vn4) rfl (by kernel_rfl) (by kernel_rfl) (by kernel_rfl) (fun _ _ _ h => h) (Or.inl ⟨by rfl, ?hyn4⟩) hHeld ?restn4
            case hyn4 => intro w' hSw; (try dsimp only at hSw); go_simp; try with_reducible rfl
            simp only [Act.put]
            refine wpAnyH_take (i := 4) (v := ?vn5) rfl (by kernel_rfl) (by kernel_rfl) (by kernel_rfl) (fun _ _ _ h => h) (Or.inl ⟨by rfl, ?hyn5⟩) hHeld ?restn5
            case hyn5 => intro w' hSw; (try dsimp only at hSw); go_simp; try with_reducible rfl
            simp only [Act.put]
            refine wpAnyH_take (i := 5) (v := ?vn6) rfl (by kernel_rfl) (by kernel_rfl) (by kernel_rfl) (fun _ _ _ h => h) (Or.inl ⟨by rfl, ?hyn6⟩) hHeld ?restn6
            case hyn6 => intro w' hSw; (try dsimp only at hSw); go_simp; try with_reducible rfl
            simp only [Act.put]
            refine wpAnyH_take (i := 6) (v := ?vn7) rfl (by kernel_rfl) (by kernel_rfl) (by kernel_rfl) (fun _ _ _ h => h) (Or.inl ⟨by rfl, ?hyn7⟩) hHeld ?restn7
            case hyn7 => intro w' hSw; (try dsimp only at hSw); go_simp; try with_reducible rfl
            simp only [Act.put]
            refine wpAnyH_take (i := 7) (v := ?vn8) rfl (by kernel_rfl) (by kernel_rfl) (by kernel_rfl) (fun _ _ _ h => h) (Or.inl ⟨by rfl, ?hyn8⟩) hHeld ?restn8
            case hyn8 => intro w' hSw; (try dsimp only at hSw); go_simp; try with_reducible rfl
            simp only [Act.put]
            refine wpAnyH_take (i := 8) (v := ?vn9) rfl (by kernel_rfl) (by kernel_rfl) (by kernel_rfl) (fun _ _ _ h => h) (Or.inl ⟨by rfl, ?hyn9⟩) hHeld ?restn9
            case hyn9 => intro w' hSw; (try dsimp only at hSw); go_simp; try with_reducible rfl
            simp only [Act.put]
            refine wpAnyH_ready (rs := [9]) (by kernel_rfl) (by simp) ?_
            refine AllReadyH.cons rfl (fun K hK => ?_) AllReadyH.nil
            go_simp
            refine HPk.out.mono ?_
            rintro e w4 ⟨pv', rfl, HTo⟩
            obtain ⟨hpo, hpu, hpl⟩ := HTo.out
            have hpu2 : Upd (fun k => (Value.slice (some ⟨g, 0, none⟩) st'.length cap).ownBlock = some k) w3 w4 := ⟨hpu.os, hpu.tape, hpu.output, hpu.size, hpu.block⟩
            have HB4 := hide_ (below_to3 HB3.out hpu2 (fun k hk => (World.ownsRow.lt HC3.out k hk).1))
            have KS4 := hide_ (KS3.out.upd hpu2 (HC3.out.ne KS3.out (by decide)))
            have KN4 := hide_ (KN3.out.upd hpu2 (HC3.out.ne KN3.out (by decide)))
            have HF4 := hide_ (HF3.out.upd hpu2 (HC3.out.ne HF3.out (by decide)))
            have HN4 := hide_ (HN3.out.upd hpu2 (fun k h1 h2 => HNe3.out k h1 h2))
            have HNe4 : Hid (∀ k, (Value.slice (some ⟨gn, 0, none⟩) (nums.length + 1) capn).ownBlock = some k → ¬ pv'.ownBlock = some k) := hide_ (fun k h1 h2 => by
              rcases hpl k h2 with h | h
              · exact HNe3.out k h1 h
              · have h3 := (World.ownsRow.lt HN3.out k h1).2
                have h4 : w3.heap.size ≤ k := h
                omega)
            have HP4 : Hid (IOwn w4 w.heap.size pv' (kidsT y x ++ st').reverse) := hide_ (by rw [List.reverse_append]; exact hpo)
            have HHS4 := hide_ (HSS.out _ HB4.out KS4.out KN4.out)
            clear hpo hpu hpl hpu2 HTo
            dsimp only
            refine hK.out _ _ (HHS4.out) (fun hHeld => ?_)
            clear hK K
            refine wpAnyH_ready (rs := [10]) (by kernel_rfl) (by simp) ?_
            refine AllReadyH.cons rfl (fun K hK => ?_) AllReadyH.nil
            go_simp
            refine hK.out _ _ (HHS4.out) (fun hHeld => ?_)
            clear hK K
            refine wpAnyH_done (by kernel_rfl) ?_ _
            clear HHS4
            go_wp2
            go_roundw
            case rel => exact ⟨i + 1, _, _, _, _, rfl, rfl, by omega, by go_num, HWn, hide_ ⟨KS4.out, HF4.out, HN4.out, HP4.out, HNe4.out, HB4.out⟩⟩
            case measure => simp [intOf]; omega
          · have HA := hide_ (HBad.out hmz)
            have hmz' : (misP y x == 0) = false := by simpa using hmz
            generalize misP y x = er at *
            have q0 := HF2.out.cell 0; have q1 := HF2.out.cell 1
            have f2 := fun i => HF2.out.frozen i
            simp at q0 q1
            have HK := hide_ (wr2 HF2.out (.int .i64 er) (.int .i64 (i : Int)))
            have HBf := hide_ (below_wr2 HB2.out (w.heap.size + 1) (by omega) (.int .i64 er) (.int .i64 (i : Int)))
            go_wp2
            exact retTF rfl rfl rfl HK.out ⟨_, by rw [HV0.out, HA.out], by rw [HV0.out, HA.out]; exact hide_ (IOwn.nil _ _), HBf⟩
        · obtain rfl : i = V.length := by omega
          obtain ⟨-, hans⟩ := HW.out.done
          have HA := hide_ hans
          clear hans
          have q0 := HM.out.flt.cell 0; have q1 := HM.out.flt.cell 1
          have f2 := fun i => HM.out.flt.frozen i
          simp at q0 q1
          have HK := hide_ (wr2 HM.out.flt (.int .i64 0) (.int .i64 0))
          have HBf := hide_ (below_wr2 HM.out.bel (w.heap.size + 1) (by omega) (.int .i64 0) (.int .i64 0))
          have HNf : Hid (IOwn ((wq.setCell ⟨w.heap.size + 1, 0, none⟩ (.int .i64 0)).setCell ⟨w.heap.size + 1, 1, none⟩ (.int .i64 0)) w.heap.size nv nums) := hide_ (HM.out.num.upd (((Upd.refl (fun k => k = w.heap.size + 1) wq).set _ _ (.inl rfl)).set _ _ (.inl rfl)) (fun k hk e => HM.out.num.ne HM.out.flt (by decide) (by rw [← e]; exact hk)))
          go_wp2
          exact retTF rfl rfl rfl HK.out ⟨_, by rw [HV0.out, HA.out], by rw [HV0.out, HA.out]; exact HNf, HBf⟩
    · rw [if_pos hd, HVe.out] at HV0
      have hd' : (d1 == 0) = false := by simpa using hd
      have HK := hide_ (wr2 K26.out (.int .i64 d1) (.int .i64 d2))
      have HBf := hide_ (below_wr2 HB6.out (w.heap.size + 1) (by omega) (.int .i64 d1) (.int .i64 d2))
      go_wp2_with fail
      go_region
      go_wp2
      exact retTF rfl rfl rfl HK.out ⟨_, by rw [HV0.out], by rw [HV0.out]; exact hide_ (IOwn.nil _ _), hide_ HBf.out.drew⟩
  · rw [if_pos hc, HF.out] at HV0
    have hc' : (e1 == 0) = false := by simpa using hc
    have HK := hide_ (wr2 K24.out (.int .i64 e1) (.int .i64 e2))
    have HBf := hide_ (below_wr2 HB4.out (w.heap.size + 1) (by omega) (.int .i64 e1) (.int .i64 e2))
    go_wp2_with fail
    go_region
    go_wp2
    exact retTF rfl rfl rfl HK.out ⟨_, by rw [HV0.out], by rw [HV0.out]; exact hide_ (IOwn.nil _ _), hide_ HBf.out.drew⟩
end Go.Proofs.YtlfjcihhcphjkaaDoor
