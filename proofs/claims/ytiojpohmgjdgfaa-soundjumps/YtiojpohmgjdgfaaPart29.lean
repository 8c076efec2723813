import Derived.Test.YtiojpohmgjdgfaaPart28
import Derived.Test.YtiojpohmgjdgfaaPart15
import Derived.Test.YtiojpohmgjdgfaaPart16
namespace Go.Proofs.Ytiojpohmgjdgfaa
open Go.RowKit
set_option linter.unusedVariables false
set_option linter.unusedSimpArgs false
theorem COwn.cut1 {w : World} {B g cap : Nat} {C : List In} {x : In} (h : COwn w B (.slice (some ⟨g, 0, none⟩) (C.length + 1) cap) (C ++ [x])) : COwn w B (.slice (some ⟨g, 0, none⟩) C.length cap) C := by
  unfold COwn at h
  rw [List.length_append, List.length_singleton] at h
  obtain ⟨g', cap', ys, e, hb, hn, hm, hl, ht, hK⟩ := ownS_blk h (by omega)
  injection e with e1 e2 e3
  injection e1 with e1
  injection e1 with e1 _ _
  subst e1 e3
  have h9 := ownS_of_blk (n := C.length) (c := 4) hK hb hl (by omega) hm
  have e9 : ys.take (C.length * 4) = cellsG inc C := by
    have e8 : ys.take (C.length * 4) = (ys.take ((C.length + 1) * 4)).take (C.length * 4) := by rw [List.take_take, Nat.min_eq_left (by omega)]
    have hlc : (cellsG inc C).length = C.length * 4 := cellsG_len inc_len C
    rw [e8, ht, cellsG_app, List.take_append_of_le_length (by omega), List.take_of_length_le (by omega)]
  rw [e9] at h9
  exact h9
theorem IOwn.cut1 {w : World} {B g cap : Nat} {E : List Int} {x : Int} (h : IOwn w B (.slice (some ⟨g, 0, none⟩) (E.length + 1) cap) (E ++ [x])) : IOwn w B (.slice (some ⟨g, 0, none⟩) E.length cap) E := by
  have h1 := h.cutV (m := E.length) (by rw [List.length_append, List.length_singleton]) (by omega)
  rw [List.take_left] at h1
  exact h1
def Md15 (enc : Bool) (w : World) (e : Ending) (w' : World) : Prop := ∃ C E ac cc ae ce, e = .returned (.agg #[.bool enc, .slice ac C.length cc, .slice ae E.length ce]) ∧ Chk enc C E ∧ 0 < C.length ∧ C.length ≤ 100 ∧ COwn w' w.heap.size (.slice ac C.length cc) C ∧ IOwn w' w.heap.size (.slice ae E.length ce) E ∧ Below w.heap.size w w'
theorem COwn.capM {w : World} {B : Nat} {a : Option Addr} {n c : Nat} {l : List In} (h : COwn w B (.slice a n c) l) : c ≤ 9223372036854775807 := by
  by_cases h0 : 0 < l.length
  · obtain ⟨g', cap', ys, e, hb, hn, hm, -⟩ := ownS_blk h h0
    injection e with _ _ e
    unfold maxLen at hm
    omega
  · rcases h.2 with ⟨e, -⟩ | ⟨g, cap, cur, e, -, -, -, hm, -⟩
    · injection e with _ _ e; omega
    · injection e with _ _ e
      unfold maxLen at hm
      omega
def MdQ (enc : Bool) (w : World) (e : Ending) (w' : World) : Prop := ∃ C E ac cc ae ce, e = .returned (.agg #[.bool enc, .slice ac C.length cc, .slice ae E.length ce]) ∧ Hid (Chk enc C E ∧ 0 < C.length ∧ C.length ≤ 100 ∧ COwn w' w.heap.size (.slice ac C.length cc) C ∧ IOwn w' w.heap.size (.slice ae E.length ce) E) ∧ Hid (Below w.heap.size w w')
theorem MadeTo.q {enc : Bool} {most : Nat} {w w' : World} {e : Ending} (hm : most ≤ 99) (h : MadeTo enc most w e w') : MdQ enc w e w' := by
  obtain ⟨vC, vE, C, E, rfl, h1, h2, h3, -, h5, h6, h7⟩ := h
  obtain ⟨ac, cc, rfl, -⟩ := h5.row
  obtain ⟨ae, ce, rfl, -⟩ := h6.row
  exact ⟨C, E, ac, cc, ae, ce, rfl, hide_ ⟨h1, h2, by omega, h5, h6⟩, hide_ h7⟩
theorem LeTo.q {enc : Bool} {C : List In} {E : List Int} {w w' : World} {e : Ending} (hK : Chk enc C E) (h0 : 0 < C.length) (h1 : C.length ≤ 100) (h : LeTo enc C E w e w') : MdQ enc w e w' := by
  obtain ⟨gC, cC, gE, cE, rfl, hL, hB⟩ := h
  exact ⟨C, E, _, _, _, _, rfl, hide_ ⟨hK, h0, h1, hL.out.c.cut1, hL.out.e.cut1⟩, hB⟩
theorem md_fin {fn : Func} {p : Tmp} (hf : fn.results = #[.cell p 25]) {enc : Bool} {w w1 w2 : World} {C : List In} {E : List Int} {ac ae : Option Addr} {cc ce : Nat} {tmps : Array Value} (hB1 : Below w.heap.size w w1) (KF : Blk w2 (w.heap.size + 1) 25 [.bool false, .slice none 0 0, .slice none 0 0]) (hlt : w.heap.size + 1 < w1.heap.size)
    (hp : tmps.getD p undef = .pointer (some ⟨w.heap.size + 1, 0, none⟩)) (h : Chk enc C E ∧ 0 < C.length ∧ C.length ≤ 100 ∧ COwn w2 w1.heap.size (.slice ac C.length cc) C ∧ IOwn w2 w1.heap.size (.slice ae E.length ce) E) (hB2 : Below w1.heap.size w1 w2) :
    bodyPost Try.prog fn (Md15 enc w) Exit.ret ⟨tmps, []⟩ (((w2.setCell ⟨w.heap.size + 1, 0, none⟩ (.bool enc)).setCell ⟨w.heap.size + 1, 1, none⟩ (.slice ac C.length cc)).setCell ⟨w.heap.size + 1, 2, none⟩ (.slice ae E.length ce)) := by
  refine retP hf hp (setP KF _ _ _) ?_
  have hu := upd3 w2 (w.heap.size + 1) (.bool enc) (.slice ac C.length cc) (.slice ae E.length ce)
  refine ⟨C, E, ac, cc, ae, ce, rfl, h.1, h.2.1, h.2.2.1, own_base (ownS_upd h.2.2.2.1 hu (fun k hk e => by have := (World.ownsRow.lt h.2.2.2.1 k hk).1; omega)) hB1.size, own_base (owns_upd h.2.2.2.2 hu (fun k hk e => by have := (h.2.2.2.2.lies hk).1; omega)) hB1.size, below_wr3 (below_to hB1 hB2) (by omega) _ _ _⟩
set_option maxRecDepth 100000 in
set_option maxHeartbeats 16000000 in
theorem made15_any (enc : Bool) (ac ae : Option Addr) (cc ce : Nat) (C : List In) (E : List Int) (w : World) (hCl : C.length ≤ 4398046511104) (hel : E.length ≤ 17592186044415) (hcn : ac = none → cc = 0) (hen : ae = none → ce = 0) (hr : Hid (IRow w ac C)) (he : Hid (Row .i64 w ae E)) :
    Calls Try.prog 6 #[.agg #[.bool enc, .slice ac C.length cc, .slice ae E.length ce]] w (Md15 enc w) := by
  obtain ⟨w1, hw1⟩ : ∃ wx, (w.alloc (.cells #[.bool enc, .slice ac C.length cc, .slice ae E.length ce] 25)).alloc (.cells #[.bool false, .slice none 0 0, .slice none 0 0] 25) = wx := ⟨_, rfl⟩
  have hB1 : Below w.heap.size w w1 := by rw [← hw1]; exact below2 _ _ _
  obtain ⟨kp, kf⟩ := blk2 w #[.bool enc, .slice ac C.length cc, .slice ae E.length ce] #[.bool false, .slice none 0 0, .slice none 0 0] 25 25
  rw [hw1] at kp kf
  have hlt := kf.lt
  have p0 := kp.cell 0; have p1 := kp.cell 1; have p2 := kp.cell 2
  simp at p0 p1 p2
  have KP := hide_ kp
  have KF := hide_ kf
  have HB1 := hide_ hB1
  have Hlt := hide_ hlt
  have HMd : Hid (∀ w', Below w1.heap.size w1 w' → Calls Try.prog 13 #[.agg #[.bool enc, .slice ac C.length cc, .slice ae E.length ce], .int .i64 60] w' (MdQ enc w')) := hide_ (fun w' hB => by
    have h1 := below_to hB1 hB
    exact (rmade_any enc ac ae cc ce C E 60 w' (by omega) hCl hel hcn hen (hide_ (hr.out.later h1)) (hide_ (he.out.later h1))).mono (fun e w2 h => h.q (by omega)))
  clear kp kf hB1 hlt
  by_cases h1 : C.length < 1
  · have h1' : (C.length : Int) < 1 := by omega
    go_enter Try.func6, Try.ntmps6
    go_upto_region 1 with fail
    try rw [hw1]
    clear hw1
    go_wp2_with fail
    refine (HMd.out w1 (Below.refl _ _)).mono ?_
    rintro e w2 ⟨C2, E2, a2, c2, b2, d2, rfl, HQ, HB2⟩
    have KF2 := hide_ (KF.out.later HB2.out)
    have z0 := KF2.out.cell 0; have z1 := KF2.out.cell 1; have z2 := KF2.out.cell 2
    have zf := fun i => KF2.out.frozen i
    simp at z0 z1 z2
    go_wp2_with fail
    exact md_fin rfl HB1.out KF2.out Hlt.out rfl HQ.out HB2.out
  have h1' : ¬ (C.length : Int) < 1 := by omega
  by_cases h2 : 100 < C.length
  · have h2' : (100 : Int) < C.length := by omega
    go_enter Try.func6, Try.ntmps6
    go_upto_region 1 with fail
    try rw [hw1]
    clear hw1
    go_wp2_with fail
    refine (HMd.out w1 (Below.refl _ _)).mono ?_
    rintro e w2 ⟨C2, E2, a2, c2, b2, d2, rfl, HQ, HB2⟩
    have KF2 := hide_ (KF.out.later HB2.out)
    have z0 := KF2.out.cell 0; have z1 := KF2.out.cell 1; have z2 := KF2.out.cell 2
    have zf := fun i => KF2.out.frozen i
    simp at z0 z1 z2
    go_wp2_with fail
    exact md_fin rfl HB1.out KF2.out Hlt.out rfl HQ.out HB2.out
  have h2' : ¬ (100 : Int) < C.length := by omega
  by_cases h3 : 20 < E.length
  · have h3' : (20 : Int) < E.length := by omega
    go_enter Try.func6, Try.ntmps6
    go_upto_region 1 with fail
    try rw [hw1]
    clear hw1
    go_wp2_with fail
    refine (HMd.out w1 (Below.refl _ _)).mono ?_
    rintro e w2 ⟨C2, E2, a2, c2, b2, d2, rfl, HQ, HB2⟩
    have KF2 := hide_ (KF.out.later HB2.out)
    have z0 := KF2.out.cell 0; have z1 := KF2.out.cell 1; have z2 := KF2.out.cell 2
    have zf := fun i => KF2.out.frozen i
    simp at z0 z1 z2
    go_wp2_with fail
    exact md_fin rfl HB1.out KF2.out Hlt.out rfl HQ.out HB2.out
  have h3' : ¬ (20 : Int) < E.length := by omega
  obtain ⟨K, hK⟩ : ∃ K, chk enc C E = K := ⟨_, rfl⟩
  have HCk := hide_ (rcheck_any enc ac ae cc ce C E w1 (by omega) (by omega) (hide_ (hr.out.later HB1.out)) (hide_ (he.out.later HB1.out)))
  rw [hK] at HCk
  go_enter Try.func6, Try.ntmps6
  go_upto_region 1 with fail
  try rw [hw1]
  clear hw1
  go_wp2_with fail
  refine HCk.out.mono ?_
  rintro e w3 ⟨rfl, hB3⟩
  have KP3 := hide_ (KP.out.later hB3)
  have KF3 := hide_ (KF.out.later hB3)
  have HB3 := hide_ hB3
  clear p0 p1 p2 HCk hB3
  have p0 := KP3.out.cell 0; have p1 := KP3.out.cell 1; have p2 := KP3.out.cell 2
  simp at p0 p1 p2
  have hfl := fld0 (.int .i64 K.1) (.int .i64 K.2) w3
  by_cases h0 : K.1 = 0
  · have f0 : (K.1 == 0) = true := by simpa using h0
    have HLe : Hid (Calls Try.prog 14 #[.agg #[.bool enc, .slice ac C.length cc, .slice ae E.length ce]] w3 (MdQ enc w3)) := hide_ (by
      have h5 := below_to HB1.out HB3.out
      have hKk : Chk enc C E := chk_ok.1 (chk_zero (by rw [hK]; exact h0))
      exact (lend_any enc ac ae cc ce C E w3 (by omega) (by omega) hcn hen (hide_ (hr.out.later h5)) (hide_ (he.out.later h5))).mono (fun e w2 h => h.q hKk (by omega) (by omega)))
    clear h0
    go_wp2_with fail
    refine HLe.out.mono ?_
    rintro e w2 ⟨C2, E2, a2, c2, b2, d2, rfl, HQ, HB2⟩
    have KF2 := hide_ (KF3.out.later HB2.out)
    have z0 := KF2.out.cell 0; have z1 := KF2.out.cell 1; have z2 := KF2.out.cell 2
    have zf := fun i => KF2.out.frozen i
    simp at z0 z1 z2
    go_wp2_with fail
    exact md_fin rfl (below_to HB1.out HB3.out) KF2.out (Nat.lt_of_lt_of_le Hlt.out HB3.out.size) rfl HQ.out HB2.out
  · have f0 : (K.1 == 0) = false := by simpa using h0
    clear h0
    go_wp2_with fail
    refine (HMd.out w3 HB3.out).mono ?_
    rintro e w2 ⟨C2, E2, a2, c2, b2, d2, rfl, HQ, HB2⟩
    have KF2 := hide_ (KF3.out.later HB2.out)
    have z0 := KF2.out.cell 0; have z1 := KF2.out.cell 1; have z2 := KF2.out.cell 2
    have zf := fun i => KF2.out.frozen i
    simp at z0 z1 z2
    go_wp2_with fail
    exact md_fin rfl (below_to HB1.out HB3.out) KF2.out (Nat.lt_of_lt_of_le Hlt.out HB3.out.size) rfl HQ.out HB2.out
def apP (C : List In) (k : Nat) : Bool := decide ((inA C k).op ≠ 8 ∧ (inA C k).op ≠ 41 ∧ (inA C (k + 1)).op ≠ 9)
set_option maxRecDepth 100000 in
set_option maxHeartbeats 8000000 in
theorem apart_any (enc : Bool) (ac ae : Option Addr) (cc ce m k : Nat) (C : List In) (w : World) (hk : k + 1 < C.length) (hn9 : C.length ≤ 1048576) (hr : Hid (IRow w ac C)) :
    Calls Try.prog 9 #[.agg #[.bool enc, .slice ac C.length cc, .slice ae m ce], .int .i64 (k : Int)] w fun e w' => e = .returned (.bool (apP C k)) ∧ Below w.heap.size w w' := by
  obtain ⟨w1, hw1⟩ : ∃ wx, w.alloc (.cells #[.bool enc, .slice ac C.length cc, .slice ae m ce] 25) = wx := ⟨_, rfl⟩
  have hB1 : Below w.heap.size w w1 := by rw [← hw1]; exact below1 _ _
  have kp : Blk w1 w.heap.size 25 [.bool enc, .slice ac C.length cc, .slice ae m ce] := by rw [← hw1]; exact Blk.newA _ _ _
  have p0 := kp.cell 0; have p1 := kp.cell 1; have p2 := kp.cell 2
  simp at p0 p1 p2
  have HB := hide_ hB1
  have hR1 : IRow w1 ac C := hr.out.later hB1
  obtain ⟨bc, oc, hac, hbc, hcc⟩ := hR1.open (by omega)
  subst hac
  obtain ⟨i0, i1, i2, i3⟩ := hR1.at (List.getElem?_eq_getElem (show k < C.length by omega))
  obtain ⟨j0, j1, j2, j3⟩ := hR1.at (List.getElem?_eq_getElem hk)
  rw [← inA_at (List.getElem?_eq_getElem (show k < C.length by omega))] at i0
  rw [← inA_at (List.getElem?_eq_getElem hk)] at j0
  obtain ⟨n, hn⟩ : ∃ n, C.length = n := ⟨_, rfl⟩
  obtain ⟨o1, ho1⟩ : ∃ o, (inA C k).op = o := ⟨_, rfl⟩
  obtain ⟨o2, ho2⟩ : ∃ o, (inA C (k + 1)).op = o := ⟨_, rfl⟩
  obtain ⟨r, hr0⟩ : ∃ r, apP C k = r := ⟨_, rfl⟩
  have Hr0 : Hid (decide (o1 ≠ 8 ∧ o1 ≠ 41 ∧ o2 ≠ 9) = r) := hide_ (by rw [← hr0, ← ho1, ← ho2]; rfl)
  rw [hr0]
  rw [ho1] at i0
  rw [ho2] at j0
  rw [hn] at hw1 p1 hk ⊢
  have hkI : (k : Int) < (n : Int) := by omega
  have hkJ : (k : Int) + 1 < (n : Int) := by omega
  have hn10 : n ≤ 1048576 := by omega
  have hwk : IntKind.i64.wrap ((k : Int) + 1) = ((k + 1 : Nat) : Int) := by rw [i64w _ (by omega)]; omega
  have hkL : ((k + 1 : Nat) : Int) < (n : Int) := by omega
  have hge : decide ((n : Int) ≤ (k : Int) + 1) = false := decide_eq_false (by omega)
  clear hr hB1 kp hR1 hbc hcc i1 i2 i3 j1 j2 j3 hn ho1 ho2 hr0 hn9
  go_enter Try.func9, Try.ntmps9
  go_upto_region 1 with fail
  try rw [hw1]
  clear hw1
  by_cases h8 : o1 = 8
  · have g1 : (o1 == 8) = true := by simpa using h8
    have hr1 : r = false := by rw [← Hr0.out]; simp [h8]
    clear h8
    go_wp2_with fail
    go_ret
    exact ⟨by rw [hr1]; rfl, HB.out⟩
  · have g1 : (o1 == 8) = false := by simpa using h8
    by_cases h41 : o1 = 41
    · have g2 : (o1 == 41) = true := by simpa using h41
      have hr1 : r = false := by rw [← Hr0.out]; simp [h41]
      clear h8 h41
      go_wp2_with fail
      go_ret
      exact ⟨by rw [hr1]; rfl, HB.out⟩
    · have g2 : (o1 == 41) = false := by simpa using h41
      have hr1 : r = (o2 != 9) := by
        rw [← Hr0.out]
        by_cases h9 : o2 = 9
        · simp [h9]
        · simp [h9, h8, h41]
      clear h8 h41
      go_wp2_with fail
      go_ret
      refine ⟨?_, HB.out⟩
      rw [hr1]
      first | rfl | (show Ending.returned (Value.bool (decide ((n : Int) ≤ (k : Int) + 1) || o2 != 9)) = _; rw [hge]; rfl)
set_option maxRecDepth 100000 in
set_option maxHeartbeats 4000000 in
theorem now_any (g k : Nat) (y : Int) (w : World) (hy : 0 ≤ y ∧ y ≤ 1048577) (h : Hid (Blk w g 3 [.int .i64 (k : Int)])) :
    Calls Try.prog 17 #[.int .i64 y, .pointer (some ⟨g, 0, none⟩)] w fun e w' => e = .returned (.int .i64 (mvI k y)) ∧ w = w' := by
  have b0 := h.out.cell 0
  simp at b0
  have hw : IntKind.i64.wrap (y + 1) = y + 1 := i64w _ (by omega)
  obtain ⟨r, hr⟩ : ∃ r, mvI k y = r := ⟨_, rfl⟩
  rw [hr]
  unfold mvI at hr
  go_enter Try.func17, Try.ntmps17
  by_cases h1 : (k : Int) < y
  · rw [if_pos h1] at hr
    subst hr
    go_wp2_with fail
    go_ret
    exact ⟨rfl, rfl⟩
  · rw [if_neg h1] at hr
    subst hr
    go_wp2_with fail
    go_ret
    exact ⟨rfl, rfl⟩
def jmL (k : Nat) (C : List In) : Nat → List In
  | 0 => []
  | i + 1 => jmL k C i ++ [jmI k (inA C i)] ++ (if i = k then [jmJ k] else [])
theorem take_snocJ {C : List In} {i : Nat} (h : i < C.length) : C.take (i + 1) = C.take i ++ [C[i]] := by
  rw [List.take_add_one, List.getElem?_eq_getElem h]
  rfl
theorem jmL_lo {k : Nat} {C : List In} : ∀ {i : Nat}, i ≤ C.length → i ≤ k → jmL k C i = (C.take i).map (jmI k)
  | 0, _, _ => rfl
  | i + 1, h, hk => by
    have h1 : C[i]? = some C[i] := List.getElem?_eq_getElem (by omega)
    rw [jmL, jmL_lo (by omega) (by omega), if_neg (by omega), List.append_nil, take_snocJ (by omega), inA_at h1, List.map_append]
    rfl
theorem jmL_hi {k : Nat} {C : List In} (hk : k < C.length) : ∀ {i : Nat}, i ≤ C.length → k < i → jmL k C i = (C.take (k + 1)).map (jmI k) ++ (jmJ k :: ((C.take i).drop (k + 1)).map (jmI k))
  | 0, _, h => by omega
  | i + 1, h, hki => by
    have h1 : C[i]? = some C[i] := List.getElem?_eq_getElem (by omega)
    have e1 : C.take (i + 1) = C.take i ++ [C[i]] := take_snocJ (by omega)
    rw [jmL]
    by_cases e : i = k
    · subst e
      have e2 : (C.take (i + 1)).drop (i + 1) = [] := List.drop_eq_nil_of_le (by simp; omega)
      rw [e2, jmL_lo (by omega) (by omega), if_pos rfl, inA_at h1, e1, List.map_append]
      rfl
    · have e2 : (C.take (i + 1)).drop (k + 1) = (C.take i).drop (k + 1) ++ [C[i]] := by
        rw [e1, List.drop_append_of_le_length (by simp; omega)]
      rw [e2, jmL_hi hk (by omega) (by omega), if_neg e, List.append_nil, inA_at h1, List.map_append, List.append_assoc]
      rfl
theorem jmL_all {k : Nat} {C : List In} (hk : k < C.length) : jmL k C C.length = jmC k C := by
  rw [jmL_hi hk (Nat.le_refl _) hk, List.take_length]
  rfl
theorem jmL_len {k : Nat} {C : List In} : ∀ (i : Nat), (jmL k C i).length ≤ i + 1 ∧ (i ≤ k → (jmL k C i).length ≤ i)
  | 0 => by simp [jmL]
  | i + 1 => by
    have ih := jmL_len (k := k) (C := C) i
    rw [jmL, List.length_append, List.length_append, List.length_singleton]
    by_cases e : i = k
    · rw [if_pos e, List.length_singleton]
      omega
    · rw [if_neg e, List.length_nil]
      refine ⟨by omega, fun h => ?_⟩
      have := ih.2 (by omega)
      omega
theorem COwn.updJ {w w' : World} {B : Nat} {v : Value} {l : List In} {S : Nat → Prop} (h : COwn w B v l) (hu : Upd S w w') (hs : ∀ k, v.ownBlock = some k → ¬ S k) : COwn w' B v l := ownS_upd h hu hs
theorem COwn.liesJ {w : World} {B : Nat} {v : Value} {l : List In} (h : COwn w B v l) {k : Nat} (hk : v.ownBlock = some k) : B ≤ k ∧ k < w.heap.size := h.lt k hk
theorem below_toJ {B : Nat} {w0 w w' : World} {S : Nat → Prop} (h : Below B w0 w) (hu : Upd S w w') (hB : B ≤ w.heap.size) (hs : ∀ k, S k → B ≤ k) : Below B w0 w' := h.trans (hu.below B hB hs)
structure JmM (w0 w : World) (qo : Nat) (enc : Bool) (ac ae : Option Addr) (n cc m ce k : Nat) (vC vE : Value) (D : List In) (F : List Int) : Prop where
  pg : Blk w w0.heap.size 25 [.bool enc, .slice ac n cc, .slice ae m ce]
  kb : Blk w (w0.heap.size + 1) 3 [.int .i64 (k : Int)]
  rs : Blk w (w0.heap.size + 2) 25 [.bool false, .slice none 0 0, .slice none 0 0]
  qb : Blk w qo 25 [.bool enc, vC, vE]
  gq : w0.heap.size + 3 ≤ qo
  cd : COwn w (w0.heap.size + 3) vC D
  en : IOwn w (w0.heap.size + 3) vE F
  sz : w0.heap.size + 3 ≤ w.heap.size
  bl : Below w0.heap.size w0 w
section
variable {w0 w w' : World} {qo : Nat} {enc : Bool} {ac ae : Option Addr} {n cc m ce k : Nat} {vC vE : Value} {D : List In} {F : List Int}
theorem JmM.later (h : JmM w0 w qo enc ac ae n cc m ce k vC vE D F) (hB : Below w.heap.size w w') : JmM w0 w' qo enc ac ae n cc m ce k vC vE D F :=
  ⟨h.pg.later hB, h.kb.later hB, h.rs.later hB, h.qb.later hB, h.gq, h.cd.later hB, h.en.later hB, by have := h.sz; have := hB.size; omega, below_to h.bl hB⟩
theorem JmM.ne (h : JmM w0 w qo enc ac ae n cc m ce k vC vE D F) : (∀ q, vC.ownBlock = some q → q ≠ qo) ∧ (∀ q, vE.ownBlock = some q → q ≠ qo) :=
  ⟨fun q e e2 => notC h.cd (e2 ▸ h.qb) (by decide) e, fun q e e2 => notI h.en (e2 ▸ h.qb) (by decide) e⟩
theorem JmM.pushC (h : JmM w0 w qo enc ac ae n cc m ce k vC vE D F) (x : In) (hl : D.length ≤ 1000) :
    ∃ g cap w2, (Builtin.append_ #[22, 22] 22 #[vC, .slice (some ⟨w.heap.size, 0, none⟩) 1 1]).run Try.prog (w.alloc (.cells #[.int .i64 x.op, .int .i64 x.a, .int .i64 x.b, .int .i64 x.c] 37)) = .ok (.slice (some ⟨g, 0, none⟩) (D.length + 1) cap) w2 ∧
      w2.cell? ⟨qo, 1, none⟩ = some vC ∧ w2.frozen? ⟨qo, 1, none⟩ = false ∧ JmM w0 (w2.setCell ⟨qo, 1, none⟩ (.slice (some ⟨g, 0, none⟩) (D.length + 1) cap)) qo enc ac ae n cc m ce k (.slice (some ⟨g, 0, none⟩) (D.length + 1) cap) vE (D ++ [x]) F := by
  obtain ⟨g, cap, w2, h1, h2, h3, h4⟩ := h.cd.push x (by omega) h.sz
  have hq2 := h.qb.upd h3 (fun e => h.ne.1 _ e rfl)
  have hgq := h.gq
  have hE2 := h.en.upd h3 (fun q e e2 => notIC h.en h.cd q e e2)
  have hU : Upd (fun q => q = qo) w2 (w2.setCell ⟨qo, 1, none⟩ (.slice (some ⟨g, 0, none⟩) (D.length + 1) cap)) := (Upd.refl (fun q => q = qo) w2).set _ _ (.inl rfl)
  have hlo : ∀ q, vC.ownBlock = some q → w0.heap.size + 3 ≤ q := fun q e => (h.cd.liesJ e).1
  refine ⟨g, cap, w2, h1, by have := hq2.cell 1; simpa using this, hq2.frozen 1, ?_⟩
  refine ⟨(h.pg.upd h3 (fun e => by have := hlo _ e; omega)).upd hU (fun e => by omega), (h.kb.upd h3 (fun e => by have := hlo _ e; omega)).upd hU (fun e => by omega), (h.rs.upd h3 (fun e => by have := hlo _ e; omega)).upd hU (fun e => by omega), ?_, hgq, h2.updJ hU (fun q e e2 => by rw [e2] at e; exact notC h2 hq2 (by decide) e), hE2.upd hU (fun q e e2 => by rw [e2] at e; exact notI hE2 hq2 (by decide) e), by have := h.sz; have := h3.size; have := hU.size; omega, below_toJ (below_toJ h.bl h3 h.bl.size (fun q e => by have := hlo _ e; omega)) hU (by have := h.bl.size; have := h3.size; omega) (fun q e => by omega)⟩
  have := hq2.set 1 (.slice (some ⟨g, 0, none⟩) (D.length + 1) cap)
  simpa using this
end
theorem tgt_inJ {enc : Bool} {C : List In} {E : List Int} (hK : Chk enc C E) {i : Nat} (hi : i < C.length) (ht : tgP (inA C i).op = true) : 0 ≤ (inA C i).b ∧ (inA C i).b < (C.length : Int) := by
  obtain ⟨g1, g2⟩ := frm_inA hi (hK.code i hi)
  unfold frmX at g1
  simp only [Bool.and_eq_true] at g1
  have hb := g1.2.2.1
  rw [kin_t ht, alw_15] at hb
  exact hb
theorem blk3j (w : World) (xs ys zs : Array Value) (t t' t'' : TypeId) {w' : World} (h : ((w.alloc (.cells xs t)).alloc (.cells ys t')).alloc (.cells zs t'') = w') : Blk w' w.heap.size t xs.toList ∧ Blk w' (w.heap.size + 1) t' ys.toList ∧ Blk w' (w.heap.size + 2) t'' zs.toList ∧ Below w.heap.size w w' ∧ w'.heap.size = w.heap.size + 3 := by
  obtain ⟨a, b⟩ := blk2 w xs ys t t'
  rw [← h]
  refine ⟨a.alloc _, b.alloc _, ?_, (below2 _ _ _).alloc (by simp; omega) _, by simp⟩
  have := Blk.newA ((w.alloc (.cells xs t)).alloc (.cells ys t')) zs t''
  simpa using this
theorem Row.atJ {w : World} {b o t : Nat} {l : List Int} (h : Row .i64 w (some ⟨b, o, none⟩) l) (ht : t < l.length) : w.cell? ⟨b, o + t, none⟩ = some (.int .i64 (l.getD t 0)) := by
  obtain ⟨b', o', e, -, hc⟩ := h.open (by omega)
  injection e with e
  injection e with e1 e2
  rw [e1, e2]
  exact hc t ht
section
variable {w0 w w' : World} {qo : Nat} {enc : Bool} {ac ae : Option Addr} {n cc m ce k : Nat} {vC vE : Value} {D : List In} {F : List Int}
def JmTo (w : World) (enc : Bool) (k : Nat) (C : List In) (E : List Int) (e : Ending) (w' : World) : Prop := ∃ ac cc ae ce, e = .returned (.agg #[.bool enc, .slice ac (jmC k C).length cc, .slice ae (jmE k E).length ce]) ∧ (jmC k C).length ≤ cc ∧ cc ≤ 9223372036854775807 ∧ (jmE k E).length ≤ ce ∧ IRow w' ac (jmC k C) ∧ Row .i64 w' ae (jmE k E) ∧ Below w.heap.size w w'
theorem jm_ret {fn : Func} {p : Tmp} (hf : fn.results = #[.cell p 25]) {C : List In} {E : List Int} {tmps : Array Value} (h : JmM w0 w qo enc ac ae n cc m ce k vC vE (jmC k C) (jmE k E)) (hp : tmps.getD p undef = .pointer (some ⟨w0.heap.size + 2, 0, none⟩)) :
    bodyPost Try.prog fn (JmTo w0 enc k C E) Exit.ret ⟨tmps, []⟩ (((w.setCell ⟨w0.heap.size + 2, 0, none⟩ (.bool enc)).setCell ⟨w0.heap.size + 2, 1, none⟩ vC).setCell ⟨w0.heap.size + 2, 2, none⟩ vE) := by
  refine retP hf hp (setP h.rs _ _ _) ?_
  have hu := upd3 w (w0.heap.size + 2) (.bool enc) vC vE
  have hc2 := h.cd.updJ hu (fun q e e2 => by have := (h.cd.liesJ e).1; omega)
  have he2 := h.en.upd hu (fun q e e2 => by have := (h.en.lies e).1; omega)
  obtain ⟨a, c, rfl, e2, -, e4⟩ := hc2.row
  obtain ⟨b, d, rfl, f2, -, f4⟩ := he2.row
  exact ⟨a, c, b, d, rfl, e2, hc2.capM, f4, e4, f2, below_wr3 h.bl (by omega) _ _ _⟩
theorem JmM.pushE (h : JmM w0 w qo enc ac ae n cc m ce k vC vE D F) (x : Int) (hl : F.length ≤ 2000000) :
    ∃ g cap w2, (Builtin.append_ #[23, 23] 23 #[vE, .slice (some ⟨w.drew.heap.size, 0, none⟩) 1 1]).run Try.prog (w.drew.alloc (.cells #[.int .i64 x] 3)) = .ok (.slice (some ⟨g, 0, none⟩) (F.length + 1) cap) w2 ∧ Upd (fun q => vE.ownBlock = some q) w w2 ∧
      w2.cell? ⟨qo, 2, none⟩ = some vE ∧ w2.frozen? ⟨qo, 2, none⟩ = false ∧ w2.cell? ⟨w0.heap.size, 2, none⟩ = some (.slice ae m ce) ∧ JmM w0 (w2.setCell ⟨qo, 2, none⟩ (.slice (some ⟨g, 0, none⟩) (F.length + 1) cap)) qo enc ac ae n cc m ce k vC (.slice (some ⟨g, 0, none⟩) (F.length + 1) cap) D (F ++ [x]) := by
  have hEd : IOwn w.drew (w0.heap.size + 3) vE F := h.en
  obtain ⟨g, cap, w2, h1, h2, h3', h4⟩ := hEd.push x (by omega) h.sz
  have h3 : Upd (fun q => vE.ownBlock = some q) w w2 := ⟨h3'.os, h3'.tape, h3'.output, h3'.size, h3'.block⟩
  have hq2 := h.qb.upd h3 (fun e => h.ne.2 _ e rfl)
  have hgq := h.gq
  have hC2 := h.cd.updJ h3 (fun q e e2 => notIC h.en h.cd q e2 e)
  have hU : Upd (fun q => q = qo) w2 (w2.setCell ⟨qo, 2, none⟩ (.slice (some ⟨g, 0, none⟩) (F.length + 1) cap)) := (Upd.refl (fun q => q = qo) w2).set _ _ (.inl rfl)
  have hlo : ∀ q, vE.ownBlock = some q → w0.heap.size + 3 ≤ q := fun q e => (h.en.lies e).1
  have hp2 := h.pg.upd h3 (fun e => by have := hlo _ e; omega)
  refine ⟨g, cap, w2, h1, h3, by have := hq2.cell 2; simpa using this, hq2.frozen 2, by have := hp2.cell 2; simpa using this, ?_⟩
  refine ⟨hp2.upd hU (fun e => by omega), (h.kb.upd h3 (fun e => by have := hlo _ e; omega)).upd hU (fun e => by omega), (h.rs.upd h3 (fun e => by have := hlo _ e; omega)).upd hU (fun e => by omega), ?_, hgq, hC2.updJ hU (fun q e e2 => by rw [e2] at e; exact notC hC2 hq2 (by decide) e), h2.upd hU (fun q e e2 => by rw [e2] at e; exact notI h2 hq2 (by decide) e), by have := h.sz; have := h3.size; have := hU.size; omega, below_toJ (below_toJ h.bl h3 h.bl.size (fun q e => by have := hlo _ e; omega)) hU (by have := h.bl.size; have := h3.size; omega) (fun q e => by omega)⟩
  have := hq2.set 2 (.slice (some ⟨g, 0, none⟩) (F.length + 1) cap)
  simpa using this
end
set_option maxRecDepth 100000 in
set_option maxHeartbeats 16000000 in
theorem jumped_any (enc : Bool) (ac ae : Option Addr) (cc ce k : Nat) (C : List In) (E : List Int) (w : World) (hk : k < C.length) (hl : C.length ≤ 100) (hK : Hid (Chk enc C E)) (hr : Hid (IRow w ac C)) (he : Hid (Row .i64 w ae E)) :
    Calls Try.prog 10 #[.agg #[.bool enc, .slice ac C.length cc, .slice ae E.length ce], .int .i64 (k : Int)] w fun e w' => JmTo w enc k C E e w' := by
  obtain ⟨n, hn⟩ : ∃ n, C.length = n := ⟨_, rfl⟩
  obtain ⟨m, hm⟩ : ∃ m, E.length = m := ⟨_, rfl⟩
  have hm9 : m ≤ 1048576 := by rw [← hm]; exact hK.out.ne
  obtain ⟨bc, oc, hac, hbc, hcc⟩ := hr.out.open (by omega)
  subst hac
  clear hbc hcc
  have Hn := hide_ hn
  have Hm := hide_ hm
  have hn100 : n ≤ 100 := by omega
  have hkn : k < n := by omega
  have Hk := hide_ hk
  rw [hn, hm]
  obtain ⟨w1, hw1⟩ : ∃ wx, ((w.alloc (.cells #[.bool enc, .slice (some ⟨bc, oc, none⟩) n cc, .slice ae m ce] 25)).alloc (.cells #[.int .i64 (k : Int)] 3)).alloc (.cells #[.bool false, .slice none 0 0, .slice none 0 0] 25) = wx := ⟨_, rfl⟩
  obtain ⟨kp, kk, kr, hB1, hs1⟩ := blk3j w _ _ _ _ _ _ hw1
  have p0 := kp.cell 0; have p1 := kp.cell 1; have p2 := kp.cell 2
  simp at p0 p1 p2
  have HP := hide_ kp
  have HKb := hide_ kk
  have HRs := hide_ kr
  have HB1 := hide_ hB1
  have Hs1 := hide_ hs1
  have HRr : Hid (∀ w', Below w.heap.size w w' → IRow w' (some ⟨bc, oc, none⟩) C) := hide_ (fun w' h => hr.out.later h)
  have HEr : Hid (∀ w', Below w.heap.size w w' → Row .i64 w' ae E) := hide_ (fun w' h => he.out.later h)
  clear kp kk kr hB1 hs1 hn hm hr he hk hl
  go_enter Try.func10, Try.ntmps10
  go_upto_region 1 with fail
  try rw [hw1]
  clear hw1
  go_upto_region 2 with fail
  obtain ⟨w2, hw2⟩ : ∃ wx, w1.alloc (.cells #[.bool enc, .slice none 0 0, .slice none 0 0] 25) = wx := ⟨_, rfl⟩
  have hB2 : Below w1.heap.size w1 w2 := by rw [← hw2]; exact below1 _ _
  have hQ2 : Blk w2 w1.heap.size 25 [.bool enc, .slice none 0 0, .slice none 0 0] := by rw [← hw2]; exact Blk.newA _ _ _
  obtain ⟨qo, hqo⟩ : ∃ qo, w1.heap.size = qo := ⟨_, rfl⟩
  try rw [hw2]
  have HM2 : Hid (JmM w w2 qo enc (some ⟨bc, oc, none⟩) ae n cc m ce k (.slice none 0 0) (.slice none 0 0) (jmL k C 0) []) := hide_ ⟨HP.out.later hB2, HKb.out.later hB2, HRs.out.later hB2, by rw [hqo] at hQ2; exact hQ2, by rw [← hqo, Hs1.out]; exact Nat.le_refl _, COwn.nil _ _, IOwn.nil _ _, by have := hB2.size; have := Hs1.out; omega, below_to HB1.out hB2⟩
  try rw [hqo]
  clear hw2 hB2 hQ2 hqo p0 p1 p2 HP HKb HRs HB1 Hs1
  have p1 := HM2.out.pg.cell 1
  simp at p1
  go_wp2_with fail
  clear p1
  go_loopw [7] (fun x7 wr => ∃ (i : Nat) (vC : Value), i ≤ n ∧ x7 = .int .i64 (i : Int) ∧ Hid (JmM w wr qo enc (some ⟨bc, oc, none⟩) ae n cc m ce k vC (.slice none 0 0) (jmL k C i) [])) (fun x7 _ => n - (intOf x7).toNat)
  case atStart => exact ⟨0, _, Nat.zero_le _, rfl, HM2⟩
  case round =>
    clear HM2
    obtain ⟨i, vC, hi, rfl, HM⟩ := hrel
    generalize wr = wq at *
    obtain ⟨aC, cC, hvC, -, -, -⟩ := HM.out.cd.row
    subst hvC
    obtain ⟨dl, hdl⟩ : ∃ dl, (jmL k C i).length = dl := ⟨_, rfl⟩
    rw [hdl] at HM
    have p1 := HM.out.pg.cell 1
    simp at p1
    by_cases hlt : i < n
    · have hlt' : (i : Int) < (n : Int) := by omega
      obtain ⟨x, hx⟩ : ∃ x, C[i]? = some x := ⟨_, List.getElem?_eq_getElem (by rw [Hn.out]; exact hlt)⟩
      obtain ⟨i0, i1, i2, i3⟩ := (HRr.out wq HM.out.bl).at hx
      have hxA : inA C i = x := inA_at hx
      obtain ⟨D, hD⟩ : ∃ D, jmL k C i = D := ⟨_, rfl⟩
      have HD := hide_ hD
      rw [hD] at HM hdl
      have Hdl := hide_ hdl
      clear hdl
      have htr := tgt_inJ hK.out (i := i) (by rw [Hn.out]; exact hlt)
      rw [hxA, Hn.out] at htr
      have Htr := hide_ htr
      clear hD hx htr
      go_upto_region 7 with fail
      obtain ⟨w6, hw6⟩ : ∃ wx, wq.alloc (.cells #[.int .i64 x.op, .int .i64 x.a, .int .i64 x.b, .int .i64 x.c] 37) = wx := ⟨_, rfl⟩
      have hB6 : Below wq.heap.size wq w6 := by rw [← hw6]; exact below1 _ _
      have kx : Blk w6 wq.heap.size 37 (inc x) := by rw [← hw6]; exact Blk.newA _ _ _
      have hqx : ¬ wq.heap.size = qo ∧ w.heap.size + 3 ≤ wq.heap.size ∧ ∀ q, (Value.slice aC dl cC).ownBlock = some q → q < wq.heap.size := ⟨fun e => by have := HM.out.qb.lt; omega, HM.out.sz, fun q e => (HM.out.cd.liesJ e).2⟩
      have HM6 := hide_ (HM.out.later hB6)
      obtain ⟨qx, hqx0⟩ : ∃ qx, wq.heap.size = qx := ⟨_, rfl⟩
      try rw [hw6]
      rw [hqx0] at kx hqx
      try rw [hqx0]
      have HX := hide_ kx
      have Hqx := hide_ hqx
      have x0 := kx.cell 0; have x1 := kx.cell 1; have x2 := kx.cell 2; have x3 := kx.cell 3
      have x2f := kx.frozen 2
      simp [inc] at x0 x1 x2 x3
      have HTg := hide_ (targets_any x.op w6)
      clear hw6 hB6 kx hqx hqx0 i0 i1 i2 i3 p1 HM
      go_wp2_with fail
      refine HTg.out.mono ?_
      rintro e w7 ⟨rfl, rfl⟩
      cases ht : tgP x.op with
      | true =>
        have hb := Htr.out ht
        obtain ⟨y, hy⟩ : ∃ y, jmI k x = y := ⟨_, rfl⟩
        have HNow := hide_ (now_any (w.heap.size + 1) k x.b w6 (by omega) (hide_ HM6.out.kb))
        have hyb : y = ⟨x.op, x.a, mvI k x.b, x.c⟩ := by rw [← hy]; unfold jmI; rw [if_pos ht]
        have Hy := hide_ hy
        clear HTg Htr hb ht hy
        go_wp2_with fail
        refine HNow.out.mono ?_
        rintro e w7 ⟨rfl, rfl⟩
        clear HNow
        go_upto_region 9 with fail
        obtain ⟨wy, hwy⟩ : ∃ wx, w6.setCell ⟨qx, 2, none⟩ (.int .i64 (mvI k x.b)) = wx := ⟨_, rfl⟩
        have hU : Upd (fun q => q = qx) w6 wy := by rw [← hwy]; exact (Upd.refl (fun q => q = qx) w6).set _ _ (.inl rfl)
        have KY : Hid (Blk wy qx 37 (inc y)) := hide_ (by
          rw [← hwy, hyb]
          have := HX.out.set 2 (.int .i64 (mvI k x.b))
          simpa [inc] using this)
        have HMy : Hid (JmM w wy qo enc (some ⟨bc, oc, none⟩) ae n cc m ce k (.slice aC dl cC) (.slice none 0 0) D []) := hide_ (by
          have hq := Hqx.out
          have hM := HM6.out
          exact ⟨hM.pg.upd hU (fun e => by omega), hM.kb.upd hU (fun e => by omega), hM.rs.upd hU (fun e => by omega), hM.qb.upd hU (fun e => hq.1 e.symm), hM.gq, hM.cd.updJ hU (fun q e e2 => by have := hq.2.2 q e; omega), IOwn.nil _ _, by have := hM.sz; have := hU.size; omega, below_toJ hM.bl hU hM.bl.size (fun q e => by omega)⟩)
        try rw [hwy]
        clear hwy hU hyb x0 x1 x2 x3 x2f HX HM6 Hqx
        obtain ⟨g9, c9, w9, hr9, q9, f9, hM9⟩ := HMy.out.pushC y (by have := (jmL_len (k := k) (C := C) i).1; rw [HD.out] at this; omega)
        have HM9 := hide_ hM9
        have HR9 := hide_ hr9
        have y0 := KY.out.cell 0; have y1 := KY.out.cell 1; have y2 := KY.out.cell 2; have y3 := KY.out.cell 3
        simp [inc] at y0 y1 y2 y3
        have q1 := HMy.out.qb.cell 1
        simp at q1
        have q1a : (wy.alloc (.cells #[.int .i64 y.op, .int .i64 y.a, .int .i64 y.b, .int .i64 y.c] 37)).cell? ⟨qo, 1, none⟩ = some (.slice aC dl cC) := by
          have := (HMy.out.qb.later (below1 wy (.cells #[.int .i64 y.op, .int .i64 y.a, .int .i64 y.b, .int .i64 y.c] 37))).cell 1
          simpa using this
        clear hM9 HMy KY hr9
        go_upto_region 10 with (first | (at_builtin; refine wpList_append_run rfl (.tmp 35) (.tmp 37) 22 22 rfl rfl rfl HR9.out ?_) | fail)
        obtain ⟨wz, hwz⟩ : ∃ wx, w9.setCell ⟨qo, 1, none⟩ (.slice (some ⟨g9, 0, none⟩) (D.length + 1) c9) = wx := ⟨_, rfl⟩
        rw [hwz] at HM9
        try rw [hwz]
        have b0 := HM9.out.kb.cell 0
        have p1 := HM9.out.pg.cell 1
        simp at b0 p1
        clear hwz HR9 q9 f9 y0 y1 y2 y3 q1 q1a
        by_cases hik : i = k
        · have g1 : ((i : Int) == (k : Int)) = true := by simp [hik]
          have hstep : jmL k C (i + 1) = D ++ [y] ++ [jmJ k] := by rw [jmL, HD.out, hxA, Hy.out, if_pos hik]
          have hkk : IntKind.i64.wrap ((k : Int) + 2) = (k : Int) + 2 := i64w _ (by omega)
          obtain ⟨g10, c10, w10, hr10, q10, f10, hM10⟩ := HM9.out.pushC (jmJ k) (by have := (jmL_len (k := k) (C := C) i).1; rw [HD.out] at this; rw [List.length_append, List.length_singleton]; omega)
          have hr10' := hr10
          unfold jmJ at hr10'
          have q11 := HM9.out.qb.cell 1
          simp at q11
          have HM10 := hide_ hM10
          have hl2 : (D ++ [y]).length = D.length + 1 := by simp
          rw [hl2] at hr10' HM10
          have HR10 := hide_ hr10'
          clear hr10 hr10' hM10 hl2 HM9
          go_wp2_with (first | (at_builtin; refine wpList_append_run rfl (.tmp 44) (.tmp 48) 22 22 rfl rfl rfl HR10.out ?_) | fail)
          go_roundw
          case rel => exact ⟨i + 1, _, by omega, by go_num, hide_ (by rw [hstep]; exact HM10.out)⟩
          case measure => simp [intOf]; omega
        · have g1 : ((i : Int) == (k : Int)) = false := by
            have : ¬ (i : Int) = (k : Int) := by omega
            simpa using this
          have hstep : jmL k C (i + 1) = D ++ [y] := by rw [jmL, HD.out, hxA, Hy.out, if_neg hik, List.append_nil]
          go_wp2_with fail
          go_roundw
          case rel => exact ⟨i + 1, _, by omega, by go_num, hide_ (by rw [hstep]; exact HM9.out)⟩
          case measure => simp [intOf]; omega
      | false =>
        obtain ⟨y, hy⟩ : ∃ y, jmI k x = y := ⟨_, rfl⟩
        have hyx : x = y := by rw [← hy, jmI_n ht]
        have Hy := hide_ hy
        subst hyx
        obtain ⟨wy, hwy⟩ : ∃ wx, w6 = wx := ⟨_, rfl⟩
        subst hwy
        obtain ⟨y, hy2⟩ : ∃ y, x = y := ⟨_, rfl⟩
        subst hy2
        have KY := HX
        have HMy := HM6
        clear HTg Htr ht hy HX HM6 Hqx x2f
        go_upto_region 9 with fail
        generalize w6 = wy at *
        generalize x = y at *
        obtain ⟨g9, c9, w9, hr9, q9, f9, hM9⟩ := HMy.out.pushC y (by have := (jmL_len (k := k) (C := C) i).1; rw [HD.out] at this; omega)
        have HM9 := hide_ hM9
        have HR9 := hide_ hr9
        have y0 := KY.out.cell 0; have y1 := KY.out.cell 1; have y2 := KY.out.cell 2; have y3 := KY.out.cell 3
        simp [inc] at y0 y1 y2 y3
        have q1 := HMy.out.qb.cell 1
        simp at q1
        have q1a : (wy.alloc (.cells #[.int .i64 y.op, .int .i64 y.a, .int .i64 y.b, .int .i64 y.c] 37)).cell? ⟨qo, 1, none⟩ = some (.slice aC dl cC) := by
          have := (HMy.out.qb.later (below1 wy (.cells #[.int .i64 y.op, .int .i64 y.a, .int .i64 y.b, .int .i64 y.c] 37))).cell 1
          simpa using this
        clear hM9 HMy KY hr9
        go_upto_region 10 with (first | (at_builtin; refine wpList_append_run rfl (.tmp 35) (.tmp 37) 22 22 rfl rfl rfl HR9.out ?_) | fail)
        obtain ⟨wz, hwz⟩ : ∃ wx, w9.setCell ⟨qo, 1, none⟩ (.slice (some ⟨g9, 0, none⟩) (D.length + 1) c9) = wx := ⟨_, rfl⟩
        rw [hwz] at HM9
        try rw [hwz]
        have b0 := HM9.out.kb.cell 0
        have p1 := HM9.out.pg.cell 1
        simp at b0 p1
        clear hwz HR9 q9 f9 y0 y1 y2 y3 q1 q1a
        by_cases hik : i = k
        · have g1 : ((i : Int) == (k : Int)) = true := by simp [hik]
          have hstep : jmL k C (i + 1) = D ++ [y] ++ [jmJ k] := by rw [jmL, HD.out, hxA, Hy.out, if_pos hik]
          have hkk : IntKind.i64.wrap ((k : Int) + 2) = (k : Int) + 2 := i64w _ (by omega)
          obtain ⟨g10, c10, w10, hr10, q10, f10, hM10⟩ := HM9.out.pushC (jmJ k) (by have := (jmL_len (k := k) (C := C) i).1; rw [HD.out] at this; rw [List.length_append, List.length_singleton]; omega)
          have hr10' := hr10
          unfold jmJ at hr10'
          have q11 := HM9.out.qb.cell 1
          simp at q11
          have HM10 := hide_ hM10
          have hl2 : (D ++ [y]).length = D.length + 1 := by simp
          rw [hl2] at hr10' HM10
          have HR10 := hide_ hr10'
          clear hr10 hr10' hM10 hl2 HM9
          go_wp2_with (first | (at_builtin; refine wpList_append_run rfl (.tmp 44) (.tmp 48) 22 22 rfl rfl rfl HR10.out ?_) | fail)
          go_roundw
          case rel => exact ⟨i + 1, _, by omega, by go_num, hide_ (by rw [hstep]; exact HM10.out)⟩
          case measure => simp [intOf]; omega
        · have g1 : ((i : Int) == (k : Int)) = false := by
            have : ¬ (i : Int) = (k : Int) := by omega
            simpa using this
          have hstep : jmL k C (i + 1) = D ++ [y] := by rw [jmL, HD.out, hxA, Hy.out, if_neg hik, List.append_nil]
          go_wp2_with fail
          go_roundw
          case rel => exact ⟨i + 1, _, by omega, by go_num, hide_ (by rw [hstep]; exact HM9.out)⟩
          case measure => simp [intOf]; omega
    · have ei : i = n := by omega
      subst ei
      clear hdl
      have HMa : Hid (JmM w wq qo enc (some ⟨bc, oc, none⟩) ae i cc m ce k (.slice aC dl cC) (.slice none 0 0) (jmC k C) ((jmE k E).take 0)) := hide_ (by
        have := HM.out
        rw [← Hn.out, jmL_all Hk.out] at this
        rw [List.take_zero, ← Hn.out]
        exact this)
      clear HM hlt
      have p2 := HMa.out.pg.cell 2
      simp at p2
      go_wp2_with fail
      clear p1 p2
      go_loopw [9] (fun x9 wr => ∃ (t : Nat) (vE : Value), t ≤ m ∧ x9 = .int .i64 (t : Int) ∧ Hid (JmM w wr qo enc (some ⟨bc, oc, none⟩) ae i cc m ce k (.slice aC dl cC) vE (jmC k C) ((jmE k E).take t))) (fun x9 _ => m - (intOf x9).toNat)
      case atStart => exact ⟨0, _, Nat.zero_le _, rfl, HMa⟩
      case round =>
      clear HMa
      obtain ⟨t, vE, ht, rfl, HM⟩ := hrel
      generalize wr = ws at *
      obtain ⟨aE, cE, hvE, -, -, -⟩ := HM.out.en.row
      have hFl : ((jmE k E).take t).length = t := by
        rw [List.length_take]
        have : (jmE k E).length = m := by rw [← Hm.out]; simp [jmE]
        omega
      rw [hFl] at hvE
      subst hvE
      clear hFl
      have p2 := HM.out.pg.cell 2
      simp at p2
      by_cases hlt : t < m
      · have hlt' : (t : Int) < (m : Int) := by omega
        obtain ⟨be, oe, hae, -, hce⟩ := (HEr.out ws HM.out.bl).open (by rw [Hm.out]; omega)
        have ce0 := hce t (by rw [Hm.out]; exact hlt)
        obtain ⟨e0, he0⟩ : ∃ e0, E.getD t 0 = e0 := ⟨_, rfl⟩
        have hent := hK.out.ent t (by rw [Hm.out]; exact hlt)
        rw [he0] at ce0 hent
        have Hst : Hid ((jmE k E).take (t + 1) = (jmE k E).take t ++ [mvI k e0]) := hide_ (by
          have h1 : (jmE k E)[t]? = some (mvI k e0) := by
            unfold jmE
            rw [List.getElem?_map, List.getElem?_eq_getElem (by rw [Hm.out]; exact hlt)]
            rw [← he0]
            simp [List.getD, show t < E.length by rw [Hm.out]; exact hlt]
          rw [List.take_add_one, h1]
          rfl)
        have hFl : ((jmE k E).take t).length = t := by
          rw [List.length_take]
          have : (jmE k E).length = m := by rw [← Hm.out]; simp [jmE]
          omega
        subst hae
        have HNow := hide_ (now_any (w.heap.size + 1) k e0 ws.drew (by have := Hn.out; omega) (hide_ HM.out.kb))
        obtain ⟨g9, c9, w9, hr9, hU9, z2, zf, z0, hM9⟩ := HM.out.pushE (mvI k e0) (by omega)
        rw [hFl] at hr9 hM9
        have HRun := hide_ hr9
        have HM9 := hide_ hM9
        obtain ⟨w8, hw8⟩ : ∃ wx, ws.drew.alloc (.cells #[.int .i64 (mvI k e0)] 3) = wx := ⟨_, rfl⟩
        have hw8' : (ws.alloc (.cells #[.int .i64 (mvI k e0)] 3)).drew = w8 := hw8
        rw [hw8] at HRun
        have hB8 : Below ws.heap.size ws w8 := by rw [← hw8]; exact below_to ((Below.refl _ ws).drew) (below1 _ _)
        have q2 := HM.out.qb.cell 2
        simp at q2
        have HS0 : Hid ((fun w' => w'.cell? ⟨qo, 2, none⟩ = some (.slice aE t cE) ∧ w'.cell? ⟨w.heap.size, 2, none⟩ = some (.slice (some ⟨be, oe, none⟩) m ce) ∧ w'.cell? ⟨be, oe + t, none⟩ = some (.int .i64 e0)) ws.drew) := hide_ ⟨q2, p2, ce0⟩
        have HS8 : Hid ((fun w' => w'.cell? ⟨qo, 2, none⟩ = some (.slice aE t cE) ∧ w'.cell? ⟨w.heap.size, 2, none⟩ = some (.slice (some ⟨be, oe, none⟩) m ce) ∧ w'.cell? ⟨be, oe + t, none⟩ = some (.int .i64 e0)) w8) := hide_ ⟨by have := (HM.out.qb.later hB8).cell 2; simpa using this, by have := (HM.out.pg.later hB8).cell 2; simpa using this, (hB8.cell (World.block_lt_of_cell? ws _ ce0)).trans ce0⟩
        have hbe : be < w.heap.size := by
          obtain ⟨be', oe', e1, e2, -⟩ := (HEr.out w (Below.refl _ _)).open (by rw [Hm.out]; omega)
          injection e1 with e1
          injection e1 with e1 _ _
          rw [e1]
          exact e2
        have hr9w : Row .i64 w9 (some ⟨be, oe, none⟩) E := (HEr.out ws HM.out.bl).upd hU9 (fun x ex e => by
          injection ex with ex
          subst ex
          have h5 : w.heap.size + 3 ≤ be := (HM.out.en.lies e).1
          omega)
        have HS9 : Hid ((fun w' => w'.cell? ⟨qo, 2, none⟩ = some (.slice aE t cE) ∧ w'.cell? ⟨w.heap.size, 2, none⟩ = some (.slice (some ⟨be, oe, none⟩) m ce) ∧ w'.cell? ⟨be, oe + t, none⟩ = some (.int .i64 e0)) w9) := hide_ ⟨z2, z0, by rw [Row.atJ hr9w (by rw [Hm.out]; exact hlt), he0]⟩
        clear hr9 hM9 hU9 hw8 hB8 hbe hce hent he0 hFl q2 HM ce0 hr9w
        go_wp2_with fail
        clear p2
        refine wp_region_last 12 (fun w' => w'.cell? ⟨qo, 2, none⟩ = some (.slice aE t cE) ∧ w'.cell? ⟨w.heap.size, 2, none⟩ = some (.slice (some ⟨be, oe, none⟩) m ce) ∧ w'.cell? ⟨be, oe + t, none⟩ = some (.int .i64 e0)) (by kernel_rfl) (HS0.out) (fun hHeld => ?_)
        refine wpAnyF_take [12] (by kernel_rfl) (i := 0) (v := ?vc1) rfl (by kernel_rfl) (by kernel_rfl) (by kernel_rfl) (fun _ _ _ h => h) (Or.inl ⟨by kernel_rfl, ?hyc1⟩) hHeld ?restc1
        case hyc1 => intro w' hSw; (try dsimp only at hSw); go_simp; try with_reducible rfl
        simp only [Act.put]
        try dsimp only
        refine wpAnyF_take [12] (by kernel_rfl) (i := 1) (v := ?vc2) rfl (by kernel_rfl) (by kernel_rfl) (by kernel_rfl) (fun _ _ _ h => h) (Or.inl ⟨by kernel_rfl, ?hyc2⟩) hHeld ?restc2
        case hyc2 => intro w' hSw; (try dsimp only at hSw); go_simp; try with_reducible rfl
        simp only [Act.put]
        try dsimp only
        refine wpAnyF_take [12] (by kernel_rfl) (i := 2) (v := ?vc3) rfl (by kernel_rfl) (by kernel_rfl) (by kernel_rfl) (fun _ _ _ h => h) (Or.inl ⟨by kernel_rfl, ?hyc3⟩) hHeld ?restc3
        case hyc3 => intro w' hSw; (try dsimp only at hSw); go_simp; try with_reducible rfl
        simp only [Act.put]
        try dsimp only
        refine wpAnyF_take [12] (by kernel_rfl) (i := 3) (v := ?vc4) rfl (by kernel_rfl) (by kernel_rfl) (by kernel_rfl) (fun _ _ _ h => h) (Or.inl ⟨by kernel_rfl, ?hyc4⟩) hHeld ?restc4
        case hyc4 => intro w' hSw; (try dsimp only at hSw); go_simp; try with_reducible rfl
        simp only [Act.put]
        try dsimp only
        refine wpAnyF_take [12] (by kernel_rfl) (i := 4) (v := ?vc5) rfl (by kernel_rfl) (by kernel_rfl) (by kernel_rfl) (fun _ _ _ h => h) (Or.inl ⟨by kernel_rfl, ?hyc5⟩) hHeld ?restc5
        case hyc5 => intro w' hSw; (try dsimp only at hSw); go_simp; try with_reducible rfl
        simp only [Act.put]
        try dsimp only
        refine wpAnyF_take [12] (by kernel_rfl) (i := 5) (v := ?vc6) rfl (by kernel_rfl) (by kernel_rfl) (by kernel_rfl) (fun _ _ _ h => h) (Or.inl ⟨by kernel_rfl, ?hyc6⟩) hHeld ?restc6
        case hyc6 => intro w' hSw; (try dsimp only at hSw); go_simp; try with_reducible rfl
        simp only [Act.put]
        try dsimp only
        refine wpAnyF_take [12] (by kernel_rfl) (i := 6) (v := ?vc7) rfl (by kernel_rfl) (by kernel_rfl) (by kernel_rfl) (fun _ _ _ h => h) (Or.inl ⟨by kernel_rfl, ?hyc7⟩) hHeld ?restc7
        case hyc7 => intro w' hSw; (try dsimp only at hSw); go_simp; try with_reducible rfl
        simp only [Act.put]
        try dsimp only
        refine wpAnyF_take [12] (by kernel_rfl) (i := 7) (v := ?vc8) rfl (by kernel_rfl) (by kernel_rfl) (by kernel_rfl) (fun _ _ _ h => h) (Or.inl ⟨by kernel_rfl, ?hyc8⟩) hHeld ?restc8
        case hyc8 => intro w' hSw; (try dsimp only at hSw); go_simp; try with_reducible rfl
        simp only [Act.put]
        try dsimp only
        refine wpAnyF_ready (rs := [8]) (by kernel_rfl) (by simp) ?_
        refine AllReadyF.cons rfl (fun K hK => ?_) AllReadyF.nil
        go_simp
        refine HNow.out.mono ?_
        rintro e w7 ⟨rfl, rfl⟩
        dsimp only
        refine hK.out _ _ (HS0.out) (fun hHeld => ?_)
        clear hK K
        refine wpAnyF_ready (rs := [9]) (by kernel_rfl) (by simp) ?_
        refine AllReadyF.cons rfl (fun K hK => ?_) AllReadyF.nil
        go_simp
        try rw [hw8']
        refine hK.out _ _ (HS8.out) (fun hHeld => ?_)
        clear hK K
        refine wpAnyF_ready (rs := [10]) (by kernel_rfl) (by simp) ?_
        refine AllReadyF.cons rfl (fun K hK => ?_) AllReadyF.nil
        refine step_append_run rfl (.tmp 59) (.tmp 67) 23 23 rfl (v := .slice aE t cE) (u := .slice (some ⟨ws.drew.heap.size, 0, none⟩) 1 1) (by kernel_rfl) (by kernel_rfl) HRun.out ?_
        simp only [Act.put]
        refine hK.out _ _ (HS9.out) (fun hHeld => ?_)
        clear hK K
        refine wpAnyF_take [12] (by kernel_rfl) (i := 11) (v := ?vc9) rfl (by kernel_rfl) (by kernel_rfl) (by kernel_rfl) (fun _ _ _ h => h) (Or.inl ⟨by kernel_rfl, ?hyc9⟩) hHeld ?restc9
        case hyc9 => intro w' hSw; (try dsimp only at hSw); go_simp; try with_reducible rfl
        simp only [Act.put]
        try dsimp only
        refine wpAnyF_ready (rs := [12]) (by kernel_rfl) (by simp) ?_
        refine AllReadyF.last rfl (fun K hK => ?_)
        go_simp
        refine hK.out _ _ ?_
        clear hK K
        refine wpAnyF_done (by kernel_rfl) ?_ _
        go_wp2_with fail
        go_roundw
        case rel => exact ⟨t + 1, _, by omega, by go_num, hide_ (by rw [Hst.out]; exact HM9.out)⟩
        case measure => simp [intOf]; omega
      · have et : t = m := by omega
        subst et
        have HMz : Hid (JmM w ws qo enc (some ⟨bc, oc, none⟩) ae i cc t ce k (.slice aC dl cC) (.slice aE t cE) (jmC k C) (jmE k E)) := hide_ (by
          have h1 := HM.out
          have h2 : (jmE k E).take t = jmE k E := List.take_of_length_le (by rw [← Hm.out]; simp [jmE])
          rw [h2] at h1
          exact h1)
        have q0 := HMz.out.qb.cell 0; have q1 := HMz.out.qb.cell 1; have q2 := HMz.out.qb.cell 2
        have r0 := HMz.out.rs.cell 0; have r1 := HMz.out.rs.cell 1; have r2 := HMz.out.rs.cell 2
        have rf := fun j => HMz.out.rs.frozen j
        simp at q0 q1 q2 r0 r1 r2
        clear HM
        go_wp2_with fail
        exact jm_ret rfl HMz.out rfl
theorem tmod_jm (n m : Int) (hm : 0 < m) : -m < n.tmod m ∧ n.tmod m < m := by
  by_cases h : 0 ≤ n
  · have := Int.tmod_nonneg m h
    have := Int.tmod_lt_of_pos n hm
    omega
  · have h2 : n.tmod m = -((-n).tmod m) := by rw [Int.neg_tmod, Int.neg_neg]
    have h3 := Int.tmod_lt_of_pos (-n) hm
    have h4 := Int.tmod_nonneg m (show 0 ≤ -n by omega)
    omega
set_option maxRecDepth 100000 in
set_option maxHeartbeats 16000000 in
theorem sjumps_any (en0 : Bool) (a0 b0 : Option Addr) (c0 d0 : Nat) (P0 : List In) (E0 : List Int) (at_ : Int) (w : World) (hmin : -9223372036854775808 ≤ at_) (hmax : at_ ≤ 9223372036854775807) (hP1 : P0.length ≤ 4398046511104) (hE1 : E0.length ≤ 17592186044415) (n1 : a0 = none → c0 = 0) (m1 : b0 = none → d0 = 0) (r1 : Hid (IRow w a0 P0)) (s1 : Hid (Row .i64 w b0 E0)) :
    Calls Try.prog 4 #[.agg #[.bool en0, .slice a0 P0.length c0, .slice b0 E0.length d0], .int .i64 at_] w fun e w' => e = .returned (.bool true) ∧ Below w.heap.size w w' := by
  obtain ⟨w0, hw0⟩ : ∃ w0, w.alloc (.cells #[.bool en0, .slice a0 P0.length c0, .slice b0 E0.length d0] 25) = w0 := ⟨_, rfl⟩
  have hB0 : Below w.heap.size w w0 := by rw [← hw0]; exact below1 _ _
  have hK0 : Blk w0 w.heap.size 25 [.bool en0, .slice a0 P0.length c0, .slice b0 E0.length d0] := by rw [← hw0]; exact Blk.newA _ _ _
  have HK0 := hide_ hK0
  have HB0 := hide_ hB0
  have HM1 : Hid (∀ w', Below w.heap.size w w' → Calls Try.prog 6 #[.agg #[.bool en0, .slice a0 P0.length c0, .slice b0 E0.length d0]] w' (Md15 en0 w')) := hide_ (fun w' hB => made15_any en0 a0 b0 c0 d0 P0 E0 w' hP1 hE1 n1 m1 (hide_ (r1.out.later hB)) (hide_ (s1.out.later hB)))
  clear r1 s1 n1 m1 hB0 hK0
  go_enter Try.func4, Try.ntmps4
  go_upto_region 1 with fail
  try rw [hw0]
  clear hw0
  go_wp2_with fail
  refine (first15_any w0).mono ?_
  rintro e w1 ⟨rfl, hB1⟩
  have HB1 := hide_ (below_to HB0.out hB1)
  have K1 := HK0.out.later hB1
  have p0 := K1.cell 0; have p1 := K1.cell 1; have p2 := K1.cell 2
  simp at p0 p1 p2
  have HMa := hide_ (HM1.out w1 HB1.out)
  clear hB1 HB0 HK0 K1
  go_wp2_with fail
  refine HMa.out.mono ?_
  rintro e w2 hT2
  obtain ⟨C, E, ac, cc, ae, ce, rfl, hCk, hn0, hn1, hCo, hEo, hB2⟩ := hT2
  clear HMa p0 p1 p2
  go_upto_region 4 with fail
  obtain ⟨w3, hw3⟩ : ∃ wx, w2.alloc (.cells #[.bool en0, .slice ac C.length cc, .slice ae E.length ce] 25) = wx := ⟨_, rfl⟩
  have hB3 : Below w2.heap.size w2 w3 := by rw [← hw3]; exact below1 _ _
  have hK3 : Blk w3 w2.heap.size 25 [.bool en0, .slice ac C.length cc, .slice ae E.length ce] := by rw [← hw3]; exact Blk.newA _ _ _
  obtain ⟨qp, hqp⟩ : ∃ qp, w2.heap.size = qp := ⟨_, rfl⟩
  try rw [hw3]
  rw [hqp] at hK3 ⊢
  have hcap := hCo.capM
  obtain ⟨a, c, e1, e2, -, e4⟩ := hCo.row
  injection e1 with e1 _ e3
  subst e1 e3
  obtain ⟨a, c, f1, f2, -, f4⟩ := hEo.row
  injection f1 with f1 _ f3
  subst f1 f3
  have HR3 := hide_ (e4.later hB3)
  have HE3 := hide_ (f2.later hB3)
  have HB3 := hide_ (below_to (below_to HB1.out hB2) hB3)
  have HK3 := hide_ hK3
  have hel : E.length ≤ 1048576 := hCk.ne
  have HCk := hide_ hCk
  have p0 := hK3.cell 0; have p1 := hK3.cell 1; have p2 := hK3.cell 2
  simp at p0 p1 p2
  have HV3 := hide_ (verify_any en0 ac ae cc ce C E w3 e2 hcap (by omega) f4 (by omega) HR3 HE3)
  clear hw3 hqp hB2 hB3 hK3 hCo hEo e4 f2 hCk HB1
  go_wp2_with fail
  refine HV3.out.mono ?_
  rintro e w4 ⟨rfl, hB4⟩
  have HB4 := hide_ (below_to HB3.out hB4)
  have HK4 := hide_ (HK3.out.later hB4)
  have HR4 := hide_ (HR3.out.later hB4)
  have HE4 := hide_ (HE3.out.later hB4)
  clear HV3 p0 p1 p2 HK3 HR3 HE3 HB3 hB4
  have hvc := vf_code HCk.out
  obtain ⟨v1, hv1⟩ : ∃ v, (vfP en0 C E).1 = v := ⟨_, rfl⟩
  obtain ⟨v2, hv2⟩ : ∃ v, (vfP en0 C E).2 = v := ⟨_, rfl⟩
  rw [hv1] at hvc
  rw [hv1, hv2]
  have Hvc := hide_ hvc
  have Hv1 := hide_ hv1
  clear hvc hv1 hv2
  go_upto_region 5 with fail
  obtain ⟨w5, hw5⟩ : ∃ wx, w4.alloc (.cells #[.int .i64 v1, .int .i64 v2] 30) = wx := ⟨_, rfl⟩
  have hB5 : Below w4.heap.size w4 w5 := by rw [← hw5]; exact below1 _ _
  have hK5 : Blk w5 w4.heap.size 30 [.int .i64 v1, .int .i64 v2] := by rw [← hw5]; exact Blk.newA _ _ _
  try rw [hw5]
  clear hw5
  obtain ⟨qf, hqf⟩ : ∃ qf, w4.heap.size = qf := ⟨_, rfl⟩
  try rw [hqf]
  rw [hqf] at hK5
  have HF5 := hide_ hK5
  have HK5 := hide_ (HK4.out.later hB5)
  have HR5 := hide_ (HR4.out.later hB5)
  have HE5 := hide_ (HE4.out.later hB5)
  have HB5 := hide_ (below_to HB4.out hB5)
  obtain ⟨n, hn⟩ : ∃ n, C.length = n := ⟨_, rfl⟩
  have Hn := hide_ hn
  have p0 := HK5.out.cell 0; have p1 := HK5.out.cell 1; have p2 := HK5.out.cell 2
  have z0 := HF5.out.cell 0; have z1 := HF5.out.cell 1
  simp at p0 p1 p2 z0 z1
  rw [hn] at p1 hn0 hn1 e2
  try rw [hn]
  clear hB5 hK5 hqf HK4 HR4 HE4 HB4 hn
  obtain ⟨tq, htq⟩ : ∃ tq, at_.tmod (n : Int) = tq := ⟨_, rfl⟩
  obtain ⟨q1, q2⟩ := tmod_jm at_ (n : Int) (by omega)
  rw [htq] at q1 q2
  have hz : ((n : Int) == 0) = false := by rw [beq_eq_false_iff_ne]; omega
  go_upto_region 6 with fail
  go_upto_if 21 with fail
  go_cut [7] from 22 to 26 (fun x7 wc => ∃ k : Nat, x7 = .int .i64 (k : Int) ∧ k < n ∧ w5 = wc)
  case first =>
    by_cases hng : tq < 0
    · obtain ⟨k, hk⟩ : ∃ k : Nat, tq + (n : Int) = (k : Int) := ⟨(tq + (n : Int)).toNat, by omega⟩
      have hkl : k < n := by omega
      go_wp2_with fail
      go_meet
      case rel => exact ⟨k, rfl, hkl, rfl⟩
    · obtain ⟨k, hk⟩ : ∃ k : Nat, tq = (k : Int) := ⟨tq.toNat, by omega⟩
      have hkl : k < n := by omega
      subst hk
      go_wp2_with fail
      go_meet
      case rel => exact ⟨k, rfl, hkl, rfl⟩
  case rest =>
  obtain ⟨k, rfl, hkl, rfl⟩ := hcut
  clear htq q1 q2 hz
  have hwk : IntKind.i64.wrap ((k : Int) + 1) = ((k + 1 : Nat) : Int) := by rw [i64w _ (by omega)]; omega
  by_cases hk1 : k + 1 < n
  · have g1 : decide ((n : Int) ≤ (k : Int) + 1) = false := decide_eq_false (by omega)
    have g1' : ¬ (n : Int) ≤ (k : Int) + 1 := by omega
    have HAp := apart_any en0 ac ae cc ce E.length k C w5 (by rw [Hn.out]; exact hk1) (by rw [Hn.out]; omega) HR5
    rw [Hn.out] at HAp
    obtain ⟨ap, hap⟩ : ∃ ap, apP C k = ap := ⟨_, rfl⟩
    rw [hap] at HAp
    have Hap := hide_ hap
    have HAp := hide_ HAp
    clear hap
    go_upto_region 8 with fail
    clear z1
    go_wp2_with fail
    refine HAp.out.mono ?_
    rintro e w6 ⟨rfl, hB6⟩
    have HB6 := hide_ (below_to HB5.out hB6)
    have HK6 := hide_ (HK5.out.later hB6)
    have HF6 := hide_ (HF5.out.later hB6)
    have HR6 := hide_ (HR5.out.later hB6)
    have HE6 := hide_ (HE5.out.later hB6)
    clear HAp hB6 p0 p1 p2 z0 HK5 HF5 HR5 HE5
    have p0 := HK6.out.cell 0; have p1 := HK6.out.cell 1; have p2 := HK6.out.cell 2
    have z0 := HF6.out.cell 0
    simp at p0 p1 p2 z0
    rw [Hn.out] at p1
    cases ap
    · clear p0 p1 p2
      rcases Hvc.out with hv | hv
      · subst hv
        go_wp2_with fail
        go_ret
        exact ⟨rfl, HB6.out⟩
      · subst hv
        go_wp2_with fail
        go_ret
        exact ⟨rfl, HB6.out⟩
    · have hA : (inA C k).op ≠ 8 ∧ (inA C k).op ≠ 41 ∧ (inA C (k + 1)).op ≠ 9 := by
        have := Hap.out
        unfold apP at this
        exact of_decide_eq_true this
      obtain ⟨hj1, hj2⟩ := jump_ok HCk.out (show k + 1 < C.length by rw [Hn.out]; exact hk1) ⟨hA.1, hA.2.1⟩ hA.2.2 (by rw [Hn.out]; omega)
      rw [Hv1.out] at hj1
      have HJ := jumped_any en0 ac ae cc ce k C E w6 (by rw [Hn.out]; exact hkl) (by rw [Hn.out]; exact hn1) HCk HR6 HE6
      rw [Hn.out] at HJ
      have HJ := hide_ HJ
      have Hj1 := hide_ hj1
      have Hj2 := hide_ hj2
      have hCK2 := chk_jm HCk.out (HCk.out.apt (show k + 1 < C.length by rw [Hn.out]; exact hk1) ⟨hA.1, hA.2.1⟩ hA.2.2) (by rw [Hn.out]; omega)
      have HN2 := hide_ hCK2.nc
      have HNe2 := hide_ hCK2.ne
      clear hA hj1 hj2 hCK2
      go_wp2_with fail
      refine HJ.out.mono ?_
      rintro e w7 hT7
      obtain ⟨ac2, cc2, ae2, ce2, rfl, k1, k2, k3, k4, k5, hB7⟩ := hT7
      have HV7 := verify_any en0 ac2 ae2 cc2 ce2 (jmC k C) (jmE k E) w7 k1 k2 (by have := HN2.out; omega) k3 (by have := HNe2.out; omega) (hide_ k4) (hide_ k5)
      obtain ⟨l1, hl1⟩ : ∃ l, (jmC k C).length = l := ⟨_, rfl⟩
      obtain ⟨l2, hl2⟩ : ∃ l, (jmE k E).length = l := ⟨_, rfl⟩
      rw [hl1, hl2] at HV7
      rw [hl1, hl2]
      clear hl1 hl2
      have HV7 := hide_ HV7
      have HF7 := hide_ (HF6.out.later hB7)
      have HB7 := hide_ (below_to HB6.out hB7)
      clear HJ p0 p1 p2 z0 k1 k2 k3 k4 k5 hB7 HF6 HK6 HR6 HE6
      go_wp2_with fail
      refine HV7.out.mono ?_
      rintro e w8 ⟨rfl, hB8⟩
      obtain ⟨u1, hu1⟩ : ∃ v, (vfP en0 (jmC k C) (jmE k E)).1 = v := ⟨_, rfl⟩
      obtain ⟨u2, hu2⟩ : ∃ v, (vfP en0 (jmC k C) (jmE k E)).2 = v := ⟨_, rfl⟩
      rw [hu1] at Hj1 Hj2
      rw [hu1, hu2]
      clear HV7 hu1 hu2
      go_upto_region 11 with fail
      obtain ⟨w9, hw9⟩ : ∃ wx, w8.alloc (.cells #[.int .i64 u1, .int .i64 u2] 30) = wx := ⟨_, rfl⟩
      have hB9 : Below w8.heap.size w8 w9 := by rw [← hw9]; exact below1 _ _
      have hK9 : Blk w9 w8.heap.size 30 [.int .i64 u1, .int .i64 u2] := by rw [← hw9]; exact Blk.newA _ _ _
      try rw [hw9]
      clear hw9
      obtain ⟨qg, hqg⟩ : ∃ qg, w8.heap.size = qg := ⟨_, rfl⟩
      have HF9 := hide_ (HF7.out.later (below_to hB8 hB9))
      have HB9 := hide_ (below_to HB7.out (below_to hB8 hB9))
      try rw [hqg]
      rw [hqg] at hK9
      have z0 := HF9.out.cell 0
      have y0 := hK9.cell 0
      simp at z0 y0
      clear hB8 hB9 hK9 hqg
      rcases Hvc.out with hv | hv
      · have hu : u1 = 0 := Hj1.out.1 hv
        subst hv hu
        go_wp2_with fail
        go_ret
        exact ⟨rfl, HB9.out⟩
      · have hu : u1 = 150 := by
          rcases Hj2.out with h | h
          · have := Hj1.out.2 h
            rw [hv] at this
            cases this
          · exact h
        subst hv hu
        go_wp2_with fail
        go_ret
        exact ⟨rfl, HB9.out⟩
  · have g1 : decide ((n : Int) ≤ (k : Int) + 1) = true := decide_eq_true (by omega)
    have g1' : (n : Int) ≤ (k : Int) + 1 := by omega
    clear p0 p2
    rcases Hvc.out with hv | hv
    · subst hv
      go_wp2_with fail
      go_ret
      exact ⟨rfl, HB5.out⟩
    · subst hv
      go_wp2_with fail
      go_ret
      exact ⟨rfl, HB5.out⟩
end Go.Proofs.Ytiojpohmgjdgfaa
