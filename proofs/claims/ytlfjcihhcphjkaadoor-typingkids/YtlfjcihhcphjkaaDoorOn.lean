/- typing.Check, Some. -/
import Derived.Test.YtlfjcihhcphjkaaDoorOl
import Derived.Test.YtlfjcihhcphjkaaDoorOk
namespace Go.Proofs.YtlfjcihhcphjkaaDoor
open Go.RowKit
set_option linter.unusedVariables false

set_option maxRecDepth 100000 in
set_option maxHeartbeats 4000000 in
theorem tcheck_any (aT : Option Addr) (cT : Nat) (T : List Ty) (aR : Option Addr) (cR : Nat) (R : List Rt) (t : Int) (aV : Option Addr) (cV : Nat) (V : List Nv) (w : World) (hn : T.length ≤ 10000000000000) (hm : R.length ≤ 10000000000000) (hV : V.length ≤ 2000000) (hl : Hid (LensT T)) (hT : Hid (TRow w aT T)) (hRr : Hid (RRow w aR R)) (hVr : Hid (VRow w aV V)) (ht : Hid (Tab w)) :
    Calls Tryd.prog 16 #[.agg #[.slice aT T.length cT, .slice aR R.length cR], .int .i64 t, .slice aV V.length cV] w fun e w' => e = .returned (.agg #[.int .i64 (tyV T R t V).2.1, .int .i64 (tyV T R t V).2.2]) ∧ Below w.heap.size w w' := by
  obtain ⟨w1, hw1⟩ : ∃ wx, wx = w.alloc (.cells #[.slice aT T.length cT, .slice aR R.length cR] 25) := ⟨_, rfl⟩
  have b1 : Below w.heap.size w w1 := by rw [hw1]; exact below1 _ _
  have k1 : Blk w1 w.heap.size 25 [.slice aT T.length cT, .slice aR R.length cR] := by rw [hw1]; exact Blk.newA w _ _
  have s1 : w1.heap.size = w.heap.size + 1 := by rw [hw1]; simp
  obtain ⟨w2, hw2⟩ : ∃ wx, wx = w1.alloc (.cells #[.int .i64 0, .int .i64 0] 42) := ⟨_, rfl⟩
  have b2 : Below w1.heap.size w1 w2 := by rw [hw2]; exact below1 _ _
  have k2 : Blk w2 w1.heap.size 42 [.int .i64 0, .int .i64 0] := by rw [hw2]; exact Blk.newA w1 _ _
  rw [s1] at k2
  have hB := below_to b1 b2
  have K1 := hide_ (k1.later b2)
  have K2 := hide_ k2
  have HB := hide_ hB
  have HCk := hide_ (types_any aT cT T aR cR R t aV cV V w2 hn hm hV hl (hide_ (hT.out.later hB)) (hide_ (hRr.out.later hB)) (hide_ (hVr.out.later hB)) (hide_ (ht.out.later hB)))
  have i0 := K1.out.cell 0; have i1 := K1.out.cell 1
  simp at i0 i1
  clear b1 b2 k1 k2 s1 hB
  generalize (tyV T R t V).2.1 = e1 at *
  generalize (tyV T R t V).2.2 = e2 at *
  go_enter Tryd.func16, Tryd.ntmps16
  go_upto_region 1 with fail
  rw [← hw1, ← hw2]
  clear hw1 hw2
  go_wp2_with fail
  refine HCk.out.mono ?_
  rintro e w3 ⟨v', rfl, -, HB3⟩
  have hB4 := below1 w3 (.cells #[.int .i64 e1, .int .i64 e2] 42)
  have k3 := Blk.newA w3 #[.int .i64 e1, .int .i64 e2] 42
  have k24 := (K2.out.later HB3.out).later hB4
  have hB4f := below_to (below_to HB.out HB3.out) hB4
  obtain ⟨w4, hw4⟩ : ∃ w4, w4 = w3.alloc (.cells #[.int .i64 e1, .int .i64 e2] 42) := ⟨_, rfl⟩
  rw [← hw4] at k3 k24 hB4f
  have K24 := hide_ k24
  have HB4 := hide_ hB4f
  have p0 := k3.cell 0; have p1 := k3.cell 1
  have q0 := k24.cell 0; have q1 := k24.cell 1
  have f2 := fun i => K24.out.frozen i
  simp at p0 p1 q0 q1
  have HK := hide_ (wr2 K24.out (.int .i64 e1) (.int .i64 e2))
  have HBf := hide_ (below_wr2 HB4.out (w.heap.size + 1) (by omega) (.int .i64 e1) (.int .i64 e2))
  clear hB4 k3 k24 hB4f HCk i0 i1
  go_upto_region 2 with fail
  rw [← hw4]
  clear hw4
  go_wp2
  exact retF rfl rfl HK.out ⟨rfl, HBf.out⟩
/-! ### Lists of nodes of the call's own -/
theorem infoN : (Tryd.prog.info? 49).map (fun i => (i.zero, i.size, i.bytes)) = some (some (.agg #[.int .i64 0, .int .u64 0, .int .i64 0]), 3, 24) := by kernel_rfl
def NOwn (w : World) (B : Nat) (v : Value) (l : List Nv) : Prop := w.ownsRow B 49 3 v l.length (cellsG nvc l)
theorem NOwn.upd {w w' : World} {B : Nat} {v : Value} {l : List Nv} {S : Nat → Prop} (h : NOwn w B v l) (hu : Upd S w w') (hs : ∀ k, v.ownBlock = some k → ¬ S k) : NOwn w' B v l := ownS_upd h hu hs
theorem NOwn.later {w w' : World} {B : Nat} {v : Value} {l : List Nv} (h : NOwn w B v l) (hB : Below w.heap.size w w') : NOwn w' B v l := h.upd (Upd.of_below (S := fun _ => False) hB) (fun _ _ h => h)
theorem NOwn.nil (w : World) (B : Nat) : NOwn w B (.slice none 0 0) [] := World.ownsRow_nil _ _ _ _
theorem NOwn.ne {w : World} {B : Nat} {v : Value} {l : List Nv} (h : NOwn w B v l) {k : Nat} {t : TypeId} {ys : List Value} (hb : Blk w k t ys) (ht : t ≠ 49) : ¬ v.ownBlock = some k := fun e => by
  obtain ⟨zs, hz⟩ := ownS_type h e
  exact ht (blk_type hb hz)
theorem NOwn.push {w : World} {B : Nat} {v : Value} {l : List Nv} (h : NOwn w B v l) (x : Nv) (hl : l.length ≤ 1000000000) (hB : B ≤ w.heap.size) :
    ∃ g cap w', (Builtin.append_ #[31, 31] 31 #[v, .slice (some ⟨w.heap.size, 0, none⟩) 1 1]).run Tryd.prog (w.alloc (.cells #[.int .i64 x.k, .int .u64 x.n, .int .i64 x.kids] 49)) = .ok (.slice (some ⟨g, 0, none⟩) (l.length + 1) cap) w' ∧
      NOwn w' B (.slice (some ⟨g, 0, none⟩) (l.length + 1) cap) (l ++ [x]) ∧ Upd (fun k => v.ownBlock = some k) w w' ∧ (v.ownBlock = some g ∨ w.heap.size ≤ g) := by
  obtain ⟨g, cap, w', h1, h2, h3, h4⟩ := run_pushS (P := Tryd.prog) (t := 31) (e := 49) (c := 3) Tryd.underlying31 infoN rfl (by decide) w 31 h (nvc x) rfl (fun u hu => by simp [nvc] at hu; rcases hu with rfl | rfl | rfl <;> rfl) (by unfold maxLen; omega) (by omega) hB
  refine ⟨g, cap, w', h1, ?_, h3, h4⟩
  unfold NOwn
  rw [cellsG_app, cellsG_one, List.length_append, List.length_singleton]
  exact h2
theorem NOwn.row {w : World} {B : Nat} {v : Value} {l : List Nv} (h : NOwn w B v l) : ∃ a cap, v = .slice a l.length cap ∧ VRow w a l := by
  obtain ⟨a, cap, e, -, -, hr⟩ := own_grow nvc_len h
  exact ⟨a, cap, e, hr⟩
/-- How long a slice is. -/
def Value.ln : Value → Nat
  | .slice _ n _ => n
  | _ => 0
/-- Some's memory at a round's head. -/
structure SmS (w wr : World) (a b : Value) (nv pv : Value) (V : List Nv) (st : List Int) : Prop where
  sch : Blk wr w.heap.size 25 [a, b]
  num : NOwn wr w.heap.size nv V
  pen : IOwn wr w.heap.size pv st.reverse
  bel : Below w.heap.size w wr
set_option maxRecDepth 100000 in
set_option maxHeartbeats 8000000 in
theorem some_any (aT : Option Addr) (cT : Nat) (T : List Ty) (aR : Option Addr) (cR : Nat) (R : List Rt) (t : Int) (aP : Option Addr) (nP cP : Nat) (p : List Int) (w : World) (hn : T.length ≤ 10000000000000) (hm : R.length ≤ 10000000000000) (hl : Hid (LensT T)) (hT : Hid (TRow w aT T)) (hRr : Hid (RRow w aR R)) (hpn : Hid (p.length = nP)) (hPr : Hid (Row .i64 w aP p)) (ht : Hid (Tab w)) :
    Calls Tryd.prog 11 #[.agg #[.slice aT T.length cT, .slice aR R.length cR], .int .i64 t, .slice aP nP cP] w fun e w' => ∃ v', e = .returned (.tuple #[v', .int .i64 (someT T R t p).2]) ∧ Hid (NOwn w' w.heap.size v' (someT T R t p).1) ∧ Hid (Below w.heap.size w w') := by
  obtain ⟨w1, hw1⟩ : ∃ wx, wx = w.alloc (.cells #[.slice aT T.length cT, .slice aR R.length cR] 25) := ⟨_, rfl⟩
  have b1 : Below w.heap.size w w1 := by rw [hw1]; exact below1 _ _
  have k1 : Blk w1 w.heap.size 25 [.slice aT T.length cT, .slice aR R.length cR] := by rw [hw1]; exact Blk.newA w _ _
  have K1 := hide_ k1
  have HB := hide_ b1
  have HCk := hide_ (checkType_any aT cT T aR cR R t w1 hn hm hl (hide_ (hT.out.later b1)) (hide_ (hRr.out.later b1)))
  have i0 := K1.out.cell 0; have i1 := K1.out.cell 1
  simp at i0 i1
  clear b1 k1
  go_enter Tryd.func11, Tryd.ntmps11
  go_upto_region 1 with fail
  rw [← hw1]
  clear hw1
  go_wp2_with fail
  refine HCk.out.mono ?_
  rintro e w3 ⟨rfl, hB3⟩
  clear HCk
  have HB3 := hide_ (below_to HB.out hB3)
  have HV0 : Hid (someT T R t p = if (ckT T R t).1 ≠ 0 then ([], (ckT T R t).1) else match mkT T p 1048578 [t] [] with | some v => (v, 0) | none => ([], 5)) := hide_ (by
    by_cases h1 : (chk T R).1 = 0
    · by_cases h2 : t < 0 ∨ (T.length : Int) ≤ t
      · have e : ckT T R t = (3, 0) := by unfold ckT; rw [if_neg (by simp [h1]), if_pos h2]
        unfold someT
        rw [e, if_neg (by simp [h1]), if_pos h2, if_pos (by decide)]
      · have e : ckT T R t = (0, 0) := by unfold ckT; rw [if_neg (by simp [h1]), if_neg h2]
        unfold someT
        rw [e, if_neg (by simp [h1]), if_neg h2, if_neg (by decide)]
        generalize mkT T p 1048578 [t] [] = z
        cases z <;> rfl
    · have e : ckT T R t = chk T R := by unfold ckT; rw [if_pos h1]
      unfold someT
      rw [e, if_pos h1, if_pos h1])
  have HOk : Hid ((ckT T R t).1 = 0 → OkS T R ∧ 0 ≤ t ∧ t < T.length) := hide_ (fun h => by
    unfold ckT at h
    by_cases h1 : (chk T R).1 = 0
    · rw [if_neg (by simp [h1])] at h
      by_cases h2 : t < 0 ∨ (T.length : Int) ≤ t
      · rw [if_pos h2] at h; cases h
      · exact ⟨okS_of h1, by omega⟩
    · rw [if_pos h1] at h; exact absurd h h1)
  generalize (ckT T R t).1 = e1 at *
  generalize (ckT T R t).2 = e2 at *
  have k3 := Blk.newA w3 #[.int .i64 e1, .int .i64 e2] 42
  have hB4 := below1 w3 (.cells #[.int .i64 e1, .int .i64 e2] 42)
  have k14 := (K1.out.later hB3).later hB4
  have hB4f := below_to HB3.out hB4
  obtain ⟨w4, hw4⟩ : ∃ w4, w4 = w3.alloc (.cells #[.int .i64 e1, .int .i64 e2] 42) := ⟨_, rfl⟩
  rw [← hw4] at k3 k14 hB4f
  have K14 := hide_ k14
  have HB4 := hide_ hB4f
  have p0 := k3.cell 0; have p1 := k3.cell 1
  simp at p0 p1
  clear hB3 hB4 hB4f k3 k14 i0 i1
  go_upto_region 2 with fail
  rw [← hw4]
  clear hw4
  by_cases hc : e1 = 0
  · subst hc
    rw [if_neg (by simp)] at HV0
    obtain ⟨hS, ht0, ht1⟩ := HOk.out rfl
    have HSo := hide_ hS
    have HW0 : Hid (MkI T t p [t] []) := hide_ (MkI.start ht0 ht1)
    obtain ⟨w8, hw8⟩ : ∃ wx, wx = w4.alloc (.cells #[.int .i64 t] 3) := ⟨_, rfl⟩
    have o8 : IOwn w8 w.heap.size (.slice (some ⟨w4.heap.size, 0, none⟩) 1 1) [t] := by rw [hw8]; exact own_one w4 _ _ HB4.out.size
    have b8 : Below w4.heap.size w4 w8 := by rw [hw8]; exact below1 _ _
    have HS8 : Hid (SmS w w8 (.slice aT T.length cT) (.slice aR R.length cR) (.slice none 0 0) (.slice (some ⟨w4.heap.size, 0, none⟩) 1 1) [] [t]) := hide_ ⟨K14.out.later b8, NOwn.nil _ _, o8, below_to HB4.out b8⟩
    clear o8 b8 K14 HB4 HB3 HB K1 hS HOk
    go_wp2_with fail
    rw [← hw8]
    clear hw8 p0 p1
    go_loopw [9, 10] (fun x9 x10 wr => ∃ (V : List Nv) (st : List Int) (nv : Value) (av : Option Addr) (cv : Nat), nv = x9 ∧ x10 = .slice av st.length cv ∧ Hid (MkI T t p st V) ∧ Hid (SmS w wr (.slice aT T.length cT) (.slice aR R.length cR) nv (.slice av st.length cv) V st) ∧ Hid (Value.ln nv = V.length)) (fun x9 _ _ => 1048577 - (Value.ln x9))
    case atStart => exact ⟨[], [t], _, _, _, rfl, rfl, HW0, HS8, rfl⟩
    case round =>
      obtain ⟨V, st, nv, av, cv, rfl, rfl, HW, HM, HLn⟩ := hrel
      clear HW0 HS8
      generalize wr = wq at *
      cases st with
      | nil =>
        have HA : Hid (someT T R t p = (V, 0)) := hide_ (by rw [HV0.out, HW.out.done])
        obtain ⟨a9, c9, hv9, -⟩ := HM.out.num.row
        subst hv9
        go_wp2
        go_ret2
        exact ⟨_, by rw [HA.out]; rfl, by rw [HA.out]; exact hide_ HM.out.num, hide_ HM.out.bel⟩
      | cons s st' =>
        obtain ⟨hs0, hs1, hfit, hrt, hmany, hnext⟩ := HW.out.next HSo.out
        have hlen := HW.out.len
        simp only [List.length_cons] at hlen
        obtain ⟨sn, rfl⟩ := Int.eq_ofNat_of_zero_le hs0
        have hsl : sn < T.length := by omega
        have hy : T[sn]? = some (T[sn]'hsl) := List.getElem?_eq_getElem hsl
        have hyd : T.getD sn ty0 = T[sn]'hsl := by simp [List.getD, hsl]
        have hok := HSo.out.ty sn hsl
        simp only [Int.toNat_natCast] at hfit hrt hmany hnext
        rw [hyd] at hfit hrt hmany hnext hok
        obtain ⟨bT, oT, rfl, hbT, hcT⟩ := hT.out.open (by omega)
        obtain ⟨va, vc, hty, -, -, hpr⟩ := hcT sn _ hy
        generalize T[sn]'hsl = y at *
        obtain ⟨x, hx⟩ : ∃ x, pickP y (pickA p V.length) = x := ⟨_, rfl⟩
        rw [hx] at hfit hrt hmany hnext
        have HX := hide_ hx
        have hkd := rightV_kids hrt
        have HOK := hide_ hok
        have HFit := hide_ hfit
        have HMany := hide_ hmany
        have HNext := hide_ hnext
        have HPR := hide_ hpr
        have hlow : y.ps = [] ∨ ∀ z, va = some z → z.block < w.heap.size := by
          rcases hpr with h | ⟨b', o', rfl, hb', -⟩
          · exact .inl h
          · exact .inr (fun z hz => by cases hz; exact hb')
        have HLow := hide_ hlow
        have hty' : ∀ j, j < 4 → wq.cell? ⟨bT, oT + sn * 4 + j, none⟩ = (tyc y (.slice va y.ps.length vc))[j]? := fun j hj => (HM.out.bel.cell (p := ⟨bT, oT + sn * 4 + j, none⟩) hbT).trans (hty j hj)
        have y0 := hty' 0 (by decide); have y1 := hty' 1 (by decide); have y2 := hty' 2 (by decide); have y3 := hty' 3 (by decide)
        simp [tyc] at y0 y1 y2 y3
        have hlen2 : ((sn : Int) :: st').length = st'.length + 1 := rfl
        rw [hlen2] at HM ⊢
        obtain ⟨g, cap, ys, hav, -, hncap, -, -, -, -⟩ := ownS_blk HM.out.pen (by simp)
        have hrl : (((sn : Int) :: st').reverse).length = st'.length + 1 := by simp
        rw [hrl] at hav hncap
        injection hav with hav _ hcv
        subst hav hcv
        have cP : wq.cell? ⟨g, st'.length, none⟩ = some (.int .i64 (sn : Int)) := by
          have h := HM.out.pen.at (i := st'.length) (by simp)
          rw [rev_top] at h
          exact h
        have i0 := HM.out.sch.cell 0
        simp at i0
        obtain ⟨a9, c9, hv9, -⟩ := HM.out.num.row
        have hst : (st'.length : Int) ≤ 1048575 := by omega
        have hVl : (V.length : Int) ≤ 1048575 := by omega
        have hsl' : (sn : Int) < T.length := by omega
        clear hy hyd hok hcT hty hpr hlow hty' hfit hmany hnext hrl hlen2 hx
        subst hv9
        have hgl : g < wq.heap.size := (World.ownsRow.lt HM.out.pen g rfl).2
        have hbl : bT < wq.heap.size := Nat.lt_of_lt_of_le hbT HM.out.bel.size
        have cPa : ∀ ob, (wq.alloc ob).cell? ⟨g, st'.length, none⟩ = some (.int .i64 (sn : Int)) := fun ob => (cell_al wq ob _ _ hgl).trans cP
        have i0a : ∀ ob, (wq.alloc ob).cell? ⟨w.heap.size, 0, none⟩ = some (.slice (some ⟨bT, oT, none⟩) T.length cT) := fun ob => (cell_al wq ob _ _ HM.out.sch.lt).trans i0
        have y0a : ∀ ob, (wq.alloc ob).cell? ⟨bT, oT + sn * 4, none⟩ = some (.int .i64 y.k) := fun ob => (cell_al wq ob _ _ hbl).trans y0
        have y1a : ∀ ob, (wq.alloc ob).cell? ⟨bT, oT + sn * 4 + 1, none⟩ = some (.int .i64 y.n) := fun ob => (cell_al wq ob _ _ hbl).trans y1
        have y2a : ∀ ob, (wq.alloc ob).cell? ⟨bT, oT + sn * 4 + 2, none⟩ = some (.int .i64 y.e) := fun ob => (cell_al wq ob _ _ hbl).trans y2
        have y3a : ∀ ob, (wq.alloc ob).cell? ⟨bT, oT + sn * 4 + 3, none⟩ = some (.slice va y.ps.length vc) := fun ob => (cell_al wq ob _ _ hbl).trans y3
        go_upto_region 8 with fail
        obtain ⟨w1, hw1⟩ : ∃ wx, wx = (wq.alloc (.cells #[.int .i64 y.k, .int .i64 y.n, .int .i64 y.e, .slice va y.ps.length vc] 64)).drew := ⟨_, rfl⟩
        have b1 : Below wq.heap.size wq w1 := by rw [hw1]; exact (below1 _ _).drew
        have kt : Blk w1 wq.heap.size 64 [.int .i64 y.k, .int .i64 y.n, .int .i64 y.e, .slice va y.ps.length vc] := by rw [hw1]; exact Blk.newA wq #[.int .i64 y.k, .int .i64 y.n, .int .i64 y.e, .slice va y.ps.length vc] 64
        have HB1 := hide_ (below_to HM.out.bel b1)
        have KS1 := hide_ (HM.out.sch.later b1)
        have KT1 := hide_ kt
        have HN1 := hide_ (HM.out.num.later b1)
        have HP1 := hide_ (HM.out.pen.later b1)
        clear b1 kt
        go_region
        rw [← hw1]
        clear hw1 cP cPa i0 i0a y0 y1 y2 y3 y0a y1a y2a y3a
        go_upto_region 9 with fail
        have HSS : Hid (∀ w', Below w1.heap.size w1 w' → (fun w' => w'.cell? ⟨wq.heap.size, 0, none⟩ = some (.int .i64 y.k) ∧ w'.cell? ⟨wq.heap.size, 1, none⟩ = some (.int .i64 y.n) ∧ w'.cell? ⟨wq.heap.size, 2, none⟩ = some (.int .i64 y.e) ∧ w'.cell? ⟨wq.heap.size, 3, none⟩ = some (.slice va y.ps.length vc)) w') := hide_ (fun w' hB => ⟨(KT1.out.later hB).cell 0, (KT1.out.later hB).cell 1, (KT1.out.later hB).cell 2, (KT1.out.later hB).cell 3⟩)
        have HPa : Hid (∀ w', Below w1.heap.size w1 w' → Calls Tryd.prog 31 #[.slice aP nP cP, .int .i64 (V.length : Int)] w' fun e w'' => e = .returned (.int .u64 (pickA p V.length)) ∧ w' = w'') := hide_ (fun w' hB => pickAt_any aP nP cP p V.length w' hpn (hide_ (hPr.out.later (below_to HB1.out hB))))
        have HPd : Hid (∀ w', Below w1.heap.size w1 w' → Calls Tryd.prog 30 #[.agg #[.int .i64 y.k, .int .i64 y.n, .int .i64 y.e, .slice va y.ps.length vc], .int .u64 (pickA p V.length)] w' fun e w'' => e = .returned (.agg #[.int .i64 x.k, .int .u64 x.n, .int .i64 x.kids]) ∧ Below w'.heap.size w' w'') := hide_ (fun w' hB => by
          have h := picked_any (pickA p V.length) y.k y.n y.e y.ps va vc sn w' (pickA_in p V.length) HOK (hide_ (HPR.out.later (below_to HB1.out hB))) (hide_ (ht.out.later (below_to HB1.out hB)))
          rw [HX.out] at h
          exact h)
        go_cut [13] from 38 to 43 (fun x13 wc => ∃ (bx : Nat) (w5 : World), w5 = wc ∧ x13 = .pointer (some ⟨bx, 0, none⟩) ∧ Hid (Blk w5 bx 49 (nvc x)) ∧ Hid (Below w1.heap.size w1 w5) ∧ Hid (w1.heap.size ≤ bx))
        case first =>
          refine wp_region_held_drew (S := (fun w' => w'.cell? ⟨wq.heap.size, 0, none⟩ = some (.int .i64 y.k) ∧ w'.cell? ⟨wq.heap.size, 1, none⟩ = some (.int .i64 y.n) ∧ w'.cell? ⟨wq.heap.size, 2, none⟩ = some (.int .i64 y.e) ∧ w'.cell? ⟨wq.heap.size, 3, none⟩ = some (.slice va y.ps.length vc))) (by kernel_rfl) (HSS.out _ ((Below.refl _ _).drew)) (fun hHeld => ?_)
          refine wpAnyH_take (i := 0) (v := ?vp1) rfl (by kernel_rfl) (by kernel_rfl) (by kernel_rfl) (fun _ _ _ h => h) (Or.inl ⟨by rfl, ?hyp1⟩) hHeld ?restp1
          case hyp1 => intro w' hSw; (try dsimp only at hSw); go_simp; try with_reducible rfl
          simp only [Act.put]
          refine wpAnyH_take (i := 1) (v := ?vp2) rfl (by kernel_rfl) (by kernel_rfl) (by kernel_rfl) (fun _ _ _ h => h) (Or.inl ⟨by rfl, ?hyp2⟩) hHeld ?restp2
          case hyp2 => intro w' hSw; (try dsimp only at hSw); go_simp; try with_reducible rfl
          simp only [Act.put]
          refine wpAnyH_take (i := 2) (v := ?vp3) rfl (by kernel_rfl) (by kernel_rfl) (by kernel_rfl) (fun _ _ _ h => h) (Or.inl ⟨by rfl, ?hyp3⟩) hHeld ?restp3
          case hyp3 => intro w' hSw; (try dsimp only at hSw); go_simp; try with_reducible rfl
          simp only [Act.put]
          refine wpAnyH_take (i := 3) (v := ?vp4) rfl (by kernel_rfl) (by kernel_rfl) (by kernel_rfl) (fun _ _ _ h => h) (Or.inl ⟨by rfl, ?hyp4⟩) hHeld ?restp4
          case hyp4 => intro w' hSw; (try dsimp only at hSw); go_simp; try with_reducible rfl
          simp only [Act.put]
          refine wpAnyH_ready (rs := [4, 6]) (by kernel_rfl) (by simp) ?_
          refine AllReadyH.cons rfl (fun K hK => ?_) ?_
          · go_simp
            refine (HPa.out _ ((Below.refl w1.heap.size w1).drew)).mono ?_
            rintro e w' ⟨rfl, rfl⟩
            dsimp only
            refine hK.out _ _ (hHeld) (fun hHeld => ?_)
            clear hK K
            refine wpAnyH_ready (rs := [5, 6]) (by kernel_rfl) (by simp) ?_
            refine AllReadyH.cons rfl (fun K hK => ?_) ?_
            · go_simp
              refine (HPd.out _ ((Below.refl w1.heap.size w1).drew)).mono ?_
              rintro e w5 ⟨rfl, hB5⟩
              dsimp only
              have HB5 := hide_ (below_to ((Below.refl w1.heap.size w1).drew) hB5)
              clear hB5
              refine hK.out _ _ (HSS.out _ HB5.out) (fun hHeld => ?_)
              clear hK K
              refine wpAnyH_ready (rs := [6]) (by kernel_rfl) (by simp) ?_
              refine AllReadyH.cons rfl (fun K hK => ?_) AllReadyH.nil
              go_simp
              refine hK.out _ _ (HSS.out _ (below_to HB5.out (below1 _ _))) (fun hHeld => ?_)
              clear hK K
              refine wpAnyH_ready (rs := [7]) (by kernel_rfl) (by simp) ?_
              refine AllReadyH.cons rfl (fun K hK => ?_) AllReadyH.nil
              go_simp
              have HBx := hide_ (below_to HB5.out (below1 w5 (.cells #[.int .i64 x.k, .int .u64 x.n, .int .i64 x.kids] 49)))
              have HNx := hide_ (Blk.newA w5 #[.int .i64 x.k, .int .u64 x.n, .int .i64 x.kids] 49)
              refine hK.out _ _ (HSS.out _ HBx.out) (fun hHeld => ?_)
              clear hK K
              refine wpAnyH_done (by kernel_rfl) ?_ _
              go_wp2
              go_meet
              case rel => exact ⟨_, _, rfl, rfl, HNx, HBx, hide_ (by first | exact Nat.le_refl _ | exact HB5.out.size)⟩
            refine AllReadyH.cons rfl (fun K hK => ?_) AllReadyH.nil
            go_simp
            refine hK.out _ _ (HSS.out _ (below_to ((Below.refl w1.heap.size w1).drew) (below1 _ _))) (fun hHeld => ?_)
            clear hK K
            refine wpAnyH_ready (rs := [5]) (by kernel_rfl) (by simp) ?_
            refine AllReadyH.cons rfl (fun K hK => ?_) AllReadyH.nil
            go_simp
            refine (HPd.out _ (below_to ((Below.refl w1.heap.size w1).drew) (below1 _ _))).mono ?_
            rintro e w5 ⟨rfl, hB5⟩
            dsimp only
            have kz : Blk w5 w1.heap.size 49 [.int .i64 0, .int .u64 0, .int .i64 0] := (Blk.newA w1.drew #[.int .i64 0, .int .u64 0, .int .i64 0] 49).later hB5
            have HKz := hide_ kz
            have z0 := kz.cell 0; have z1 := kz.cell 1; have z2 := kz.cell 2
            have zf := fun i => kz.frozen i
            simp only [List.getElem?_cons_zero, List.getElem?_cons_succ] at z0 z1 z2
            have HB5 := hide_ (below_to (below_to ((Below.refl w1.heap.size w1).drew) (below1 _ _)) hB5)
            clear hB5 kz
            refine hK.out _ _ (HSS.out _ HB5.out) (fun hHeld => ?_)
            clear hK K
            refine wpAnyH_ready (rs := [7]) (by kernel_rfl) (by simp) ?_
            refine AllReadyH.cons rfl (fun K hK => ?_) AllReadyH.nil
            go_simp
            have HBx := hide_ (below_wr3 HB5.out w1.heap.size (Nat.le_refl _) (.int .i64 x.k) (.int .u64 x.n) (.int .i64 x.kids))
            have HNx := hide_ (wr3 HKz.out (.int .i64 x.k) (.int .u64 x.n) (.int .i64 x.kids))
            refine hK.out _ _ (HSS.out _ HBx.out) (fun hHeld => ?_)
            clear hK K
            refine wpAnyH_done (by kernel_rfl) ?_ _
            go_wp2
            go_meet
            case rel => exact ⟨_, _, rfl, rfl, HNx, HBx, hide_ (by first | exact Nat.le_refl _ | exact HB5.out.size)⟩
          refine AllReadyH.cons rfl (fun K hK => ?_) AllReadyH.nil
          go_simp
          refine hK.out _ _ (HSS.out _ (below_to ((Below.refl w1.heap.size w1).drew) (below1 _ _))) (fun hHeld => ?_)
          clear hK K
          refine wpAnyH_ready (rs := [4]) (by kernel_rfl) (by simp) ?_
          refine AllReadyH.cons rfl (fun K hK => ?_) AllReadyH.nil
          go_simp
          refine (HPa.out _ (below_to ((Below.refl w1.heap.size w1).drew) (below1 _ _))).mono ?_
          rintro e w' ⟨rfl, rfl⟩
          dsimp only
          refine hK.out _ _ (hHeld) (fun hHeld => ?_)
          clear hK K
          refine wpAnyH_ready (rs := [5]) (by kernel_rfl) (by simp) ?_
          refine AllReadyH.cons rfl (fun K hK => ?_) AllReadyH.nil
          go_simp
          refine (HPd.out _ (below_to ((Below.refl w1.heap.size w1).drew) (below1 _ _))).mono ?_
          rintro e w5 ⟨rfl, hB5⟩
          dsimp only
          have kz : Blk w5 w1.heap.size 49 [.int .i64 0, .int .u64 0, .int .i64 0] := (Blk.newA w1.drew #[.int .i64 0, .int .u64 0, .int .i64 0] 49).later hB5
          have HKz := hide_ kz
          have z0 := kz.cell 0; have z1 := kz.cell 1; have z2 := kz.cell 2
          have zf := fun i => kz.frozen i
          simp only [List.getElem?_cons_zero, List.getElem?_cons_succ] at z0 z1 z2
          have HB5 := hide_ (below_to (below_to ((Below.refl w1.heap.size w1).drew) (below1 _ _)) hB5)
          clear hB5 kz
          refine hK.out _ _ (HSS.out _ HB5.out) (fun hHeld => ?_)
          clear hK K
          refine wpAnyH_ready (rs := [7]) (by kernel_rfl) (by simp) ?_
          refine AllReadyH.cons rfl (fun K hK => ?_) AllReadyH.nil
          go_simp
          have HBx := hide_ (below_wr3 HB5.out w1.heap.size (Nat.le_refl _) (.int .i64 x.k) (.int .u64 x.n) (.int .i64 x.kids))
          have HNx := hide_ (wr3 HKz.out (.int .i64 x.k) (.int .u64 x.n) (.int .i64 x.kids))
          refine hK.out _ _ (HSS.out _ HBx.out) (fun hHeld => ?_)
          clear hK K
          refine wpAnyH_done (by kernel_rfl) ?_ _
          go_wp2
          go_meet
          case rel => exact ⟨_, _, rfl, rfl, HNx, HBx, hide_ (by first | exact Nat.le_refl _ | exact HB5.out.size)⟩
        case rest =>
          obtain ⟨bx, w5, rfl, rfl, KN5, HB5, HBn⟩ := hcut
          have HBx := hide_ (below_to HB1.out HB5.out)
          have KS5 := hide_ (KS1.out.later HB5.out)
          have KT5 := hide_ (KT1.out.later HB5.out)
          have HN5 := hide_ (HN1.out.later HB5.out)
          have HP5 := hide_ (HP1.out.later HB5.out)
          have HNb : Hid (¬ (Value.slice a9 V.length c9).ownBlock = some bx) := hide_ (fun e => by have h1 := (World.ownsRow.lt HN1.out bx e).2; have h2 := HBn.out; omega)
          clear HPa HPd HSS HB1 KS1 KT1 HN1 HP1 HB5 HM
          have n0 := KN5.out.cell 0; have n1 := KN5.out.cell 1; have n2 := KN5.out.cell 2
          simp [nvc] at n0 n1 n2
          by_cases hmy : (V.length : Int) + (st'.length + 1) + x.kids > 1048576
          · have HA : Hid (someT T R t p = ([], 5)) := hide_ (by rw [HV0.out, HMany.out hmy])
            have hmy' : 1048576 < (V.length : Int) + ((st'.length : Int) + 1) + x.kids := hmy
            go_wp2
            go_ret2
            exact ⟨_, by rw [HA.out]; rfl, by rw [HA.out]; exact hide_ (NOwn.nil _ _), HBx⟩
          · have HWn := hide_ (HNext.out hmy)
            have hmy' : (V.length : Int) + ((st'.length : Int) + 1) + x.kids ≤ 1048576 := by omega
            obtain ⟨gn, capn, w6, hrun, ho6, hu6, -⟩ := HN5.out.push x (by omega) HBx.out.size
            have HRn := hide_ hrun
            have HB6 := hide_ (below_to3 HBx.out hu6 (fun k hk => (World.ownsRow.lt HN5.out k hk).1))
            have KS6 := hide_ (KS5.out.upd hu6 (HN5.out.ne KS5.out (by decide)))
            have KT6 := hide_ (KT5.out.upd hu6 (HN5.out.ne KT5.out (by decide)))
            have hbxn : ¬ (Value.slice a9 V.length c9).ownBlock = some bx := HNb.out
            have KN6 := hide_ (KN5.out.upd hu6 hbxn)
            have HN6 := hide_ ho6
            have hcut := HP5.out.cut (m := st'.length) (by simp)
            rw [rev_take] at hcut
            have HC6 := hide_ (hcut.upd hu6 (fun k h1 h2 => by obtain ⟨zs, hz⟩ := ownS_type HN5.out h2; exact hcut.ne hz (by decide) h1))
            have HSS : Hid (∀ w', Blk w' wq.heap.size 64 [.int .i64 y.k, .int .i64 y.n, .int .i64 y.e, .slice va y.ps.length vc] → Blk w' bx 49 (nvc x) → (fun w' => w'.cell? ⟨wq.heap.size, 0, none⟩ = some (.int .i64 y.k) ∧ w'.cell? ⟨wq.heap.size, 1, none⟩ = some (.int .i64 y.n) ∧ w'.cell? ⟨wq.heap.size, 2, none⟩ = some (.int .i64 y.e) ∧ w'.cell? ⟨wq.heap.size, 3, none⟩ = some (.slice va y.ps.length vc) ∧ w'.cell? ⟨bx, 0, none⟩ = some (.int .i64 x.k) ∧ w'.cell? ⟨bx, 1, none⟩ = some (.int .u64 x.n) ∧ w'.cell? ⟨bx, 2, none⟩ = some (.int .i64 x.kids)) w') := hide_ (fun w' k1 k2 => ⟨k1.cell 0, k1.cell 1, k1.cell 2, k1.cell 3, k2.cell 0, k2.cell 1, k2.cell 2⟩)
            have HPk : Hid (Calls Tryd.prog 32 #[.slice (some ⟨g, 0, none⟩) st'.length cv, .agg #[.int .i64 y.k, .int .i64 y.n, .int .i64 y.e, .slice va y.ps.length vc], .agg #[.int .i64 x.k, .int .u64 x.n, .int .i64 x.kids]] w6.drew fun e w' => ∃ v', e = .returned v' ∧ Hid (PsTo w6.drew w.heap.size (.slice (some ⟨g, 0, none⟩) st'.length cv) (st'.reverse ++ (kidsT y x).reverse) w' v')) := hide_ (push_any (.slice (some ⟨g, 0, none⟩) st'.length cv) st'.reverse w.heap.size y.k y.n y.e y.ps va vc x sn w6.drew HOK HFit hkd (by simp; omega) HB6.out.size (hide_ HC6.out) (hide_ (HPR.out.later HB6.out.drew)) HLow)
            have hcap : (st'.length : Int) ≤ cv := by omega
            have HLn2 : Hid (Value.ln (Value.slice (some ⟨gn, 0, none⟩) (V.length + 1) capn) = (V ++ [x]).length) := hide_ (by simp [Value.ln])
            clear hrun ho6 hu6 hcut hbxn HMany HNext HN5 HP5 KS5 KT5 KN5 HBx
            go_upto_region 13 with (at_builtin; refine wpList_append_run rfl (.tmp 53) (.tmp 55) 31 31 rfl rfl rfl HRn.out ?_)
            refine wp_region_held_drew (S := (fun w' => w'.cell? ⟨wq.heap.size, 0, none⟩ = some (.int .i64 y.k) ∧ w'.cell? ⟨wq.heap.size, 1, none⟩ = some (.int .i64 y.n) ∧ w'.cell? ⟨wq.heap.size, 2, none⟩ = some (.int .i64 y.e) ∧ w'.cell? ⟨wq.heap.size, 3, none⟩ = some (.slice va y.ps.length vc) ∧ w'.cell? ⟨bx, 0, none⟩ = some (.int .i64 x.k) ∧ w'.cell? ⟨bx, 1, none⟩ = some (.int .u64 x.n) ∧ w'.cell? ⟨bx, 2, none⟩ = some (.int .i64 x.kids))) (by kernel_rfl) (HSS.out _ KT6.out KN6.out) (fun hHeld => ?_)
            refine wpAnyH_take (i := 0) (v := ?vq1) rfl (by kernel_rfl) (by kernel_rfl) (by kernel_rfl) (fun _ _ _ h => h) (Or.inl ⟨by rfl, ?hyq1⟩) hHeld ?restq1
            case hyq1 => intro w' hSw; (try dsimp only at hSw); go_simp; try with_reducible rfl
            simp only [Act.put]
            refine wpAnyH_take (i := 1) (v := ?vq2) rfl (by kernel_rfl) (by kernel_rfl) (by kernel_rfl) (fun _ _ _ h => h) (Or.inl ⟨by rfl, ?hyq2⟩) hHeld ?restq2
            case hyq2 => intro w' hSw; (try dsimp only at hSw); go_simp; try with_reducible rfl
            simp only [Act.put]
            refine wpAnyH_take (i := 2) (v := ?vq3) rfl (by kernel_rfl) (by kernel_rfl) (by kernel_rfl) (fun _ _ _ h => h) (Or.inl ⟨by rfl, ?hyq3⟩) hHeld ?restq3
            case hyq3 => intro w' hSw; (try dsimp only at hSw); go_simp; try with_reducible rfl
            simp only [Act.put]
            refine wpAnyH_take (i := 3) (v := ?vq4) rfl (by kernel_rfl) (by kernel_rfl) (by kernel_rfl) (fun _ _ _ h => h) (Or.inl ⟨by rfl, ?hyq4⟩) hHeld ?restq4
            case hyq4 => intro w' hSw; (try dsimp only at hSw); go_simp; try with_reducible rfl
            simp only [Act.put]
            refine wpAnyH_take (i := 4) (v := ?vq5) rfl (by kernel_rfl) (by kernel_rfl) (by kernel_rfl) (fun _ _ _ h => h) (Or.inl ⟨by rfl, ?hyq5⟩) hHeld ?restq5
            case hyq5 => intro w' hSw; (try dsimp only at hSw); go_simp; try with_reducible rfl
            simp only [Act.put]
            refine wpAnyH_ready (rs := [5]) (by kernel_rfl) (by simp) ?_
            refine AllReadyH.cons rfl (fun K hK => ?_) AllReadyH.nil
            go_simp
            refine HPk.out.mono ?_
            rintro e w7 ⟨pv', rfl, HTo⟩
            obtain ⟨hpo, hpu, hpl⟩ := HTo.out
            have hpu2 : Upd (fun k => (Value.slice (some ⟨g, 0, none⟩) st'.length cv).ownBlock = some k) w6 w7 := ⟨hpu.os, hpu.tape, hpu.output, hpu.size, hpu.block⟩
            have HB7 := hide_ (below_to3 HB6.out hpu2 (fun k hk => (World.ownsRow.lt HC6.out k hk).1))
            have KS7 := hide_ (KS6.out.upd hpu2 (HC6.out.ne KS6.out (by decide)))
            have KT7 := hide_ (KT6.out.upd hpu2 (HC6.out.ne KT6.out (by decide)))
            have KN7 := hide_ (KN6.out.upd hpu2 (HC6.out.ne KN6.out (by decide)))
            have HN7 := hide_ (HN6.out.upd hpu2 (fun k h1 h2 => by obtain ⟨zs, hz⟩ := ownS_type HN6.out h1; exact HC6.out.ne hz (by decide) h2))
            have HP7 : Hid (IOwn w7 w.heap.size pv' (kidsT y x ++ st').reverse) := hide_ (by rw [List.reverse_append]; exact hpo)
            have HHS7 := hide_ (HSS.out _ KT7.out KN7.out)
            clear hpo hpu hpl hpu2 HTo
            dsimp only
            refine hK.out _ _ (HHS7.out) (fun hHeld => ?_)
            clear hK K
            refine wpAnyH_ready (rs := [6]) (by kernel_rfl) (by simp) ?_
            refine AllReadyH.cons rfl (fun K hK => ?_) AllReadyH.nil
            go_simp
            refine hK.out _ _ (HHS7.out) (fun hHeld => ?_)
            clear hK K
            refine wpAnyH_done (by kernel_rfl) ?_ _
            clear HHS7
            obtain ⟨st2, hst2⟩ : ∃ st2, kidsT y x ++ st' = st2 := ⟨_, rfl⟩
            rw [hst2] at HP7 HWn
            clear hst2
            obtain ⟨ap, cp, hpv⟩ := HP7.out.slice
            rw [List.length_reverse] at hpv
            subst hpv
            go_wp2
            go_roundw
            case rel => exact ⟨_, _, _, _, _, rfl, rfl, HWn, hide_ ⟨KS7.out, HN7.out, HP7.out, HB7.out⟩, HLn2⟩
            case measure => simp only [Value.ln]; omega
  · rw [if_pos hc] at HV0
    have hc' : (e1 == 0) = false := by simpa using hc
    go_wp2_with fail
    go_quiet (fail)
    go_wp2
    go_ret2
    exact ⟨_, by rw [HV0.out]; rfl, by rw [HV0.out]; exact hide_ (NOwn.nil _ _), hide_ (below_drewN HB4.out _)⟩
end Go.Proofs.YtlfjcihhcphjkaaDoor
