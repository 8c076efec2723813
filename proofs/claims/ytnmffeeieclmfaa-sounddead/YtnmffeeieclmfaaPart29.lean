import Derived.Test.YtnmffeeieclmfaaPart28
import Derived.Test.YtnmffeeieclmfaaPart16
import Derived.Test.YtnmffeeieclmfaaPart17

/- sound's laws: made. -/
namespace Go.Proofs.Ytnmffeeieclmfaa
open Go.RowKit
set_option linter.unusedVariables false
set_option linter.unusedSimpArgs false

theorem COwn.cut1 {w : World} {B g cap : Nat} {C : List In} {x : In} (h : COwn w B (.slice (some ⟨g, 0, none⟩) (C.length + 1) cap) (C ++ [x])) : COwn w B (.slice (some ⟨g, 0, none⟩) C.length cap) C := by
  unfold COwn at h
  rw [List.length_append, List.length_singleton] at h
  obtain ⟨g', cap', ys, e, hb, hn, hm, hl, ht, hK⟩ := ownS_blk h (by omega)
  injection e with e1 e2 e3
  injection e1 with e1
  injection e1 with e1 _ _
  subst e1 e3
  have h9 := ownS_of_blk (n := C.length) (c := 4) hK hb hl (by omega) hm
  have e9 : ys.take (C.length * 4) = cellsG inc C := by
    have e8 : ys.take (C.length * 4) = (ys.take ((C.length + 1) * 4)).take (C.length * 4) := by rw [List.take_take, Nat.min_eq_left (by omega)]
    have hlc : (cellsG inc C).length = C.length * 4 := cellsG_len inc_len C
    rw [e8, ht, cellsG_app, List.take_append_of_le_length (by omega), List.take_of_length_le (by omega)]
  rw [e9] at h9
  exact h9
theorem IOwn.cut1 {w : World} {B g cap : Nat} {E : List Int} {x : Int} (h : IOwn w B (.slice (some ⟨g, 0, none⟩) (E.length + 1) cap) (E ++ [x])) : IOwn w B (.slice (some ⟨g, 0, none⟩) E.length cap) E := by
  have h1 := h.cutV (m := E.length) (by rw [List.length_append, List.length_singleton]) (by omega)
  rw [List.take_left] at h1
  exact h1
/-- What made answers: a program of the call's own that has its form. -/
def Md15 (enc : Bool) (w : World) (e : Ending) (w' : World) : Prop := ∃ C E ac cc ae ce, e = .returned (.agg #[.bool enc, .slice ac C.length cc, .slice ae E.length ce]) ∧ Chk enc C E ∧ 0 < C.length ∧ C.length ≤ 100 ∧ COwn w' w.heap.size (.slice ac C.length cc) C ∧ IOwn w' w.heap.size (.slice ae E.length ce) E ∧ Below w.heap.size w w'
theorem COwn.capM {w : World} {B : Nat} {a : Option Addr} {n c : Nat} {l : List In} (h : COwn w B (.slice a n c) l) : c ≤ 9223372036854775807 := by
  by_cases h0 : 0 < l.length
  · obtain ⟨g', cap', ys, e, hb, hn, hm, -⟩ := ownS_blk h h0
    injection e with _ _ e
    unfold maxLen at hm
    omega
  · rcases h.2 with ⟨e, -⟩ | ⟨g, cap, cur, e, -, -, -, hm, -⟩
    · injection e with _ _ e; omega
    · injection e with _ _ e
      unfold maxLen at hm
      omega
/-- What Made and Lend answer, in one form. -/
def MdQ (enc : Bool) (w : World) (e : Ending) (w' : World) : Prop := ∃ C E ac cc ae ce, e = .returned (.agg #[.bool enc, .slice ac C.length cc, .slice ae E.length ce]) ∧ Hid (Chk enc C E ∧ 0 < C.length ∧ C.length ≤ 100 ∧ COwn w' w.heap.size (.slice ac C.length cc) C ∧ IOwn w' w.heap.size (.slice ae E.length ce) E) ∧ Hid (Below w.heap.size w w')
theorem MadeTo.q {enc : Bool} {most : Nat} {w w' : World} {e : Ending} (hm : most ≤ 99) (h : MadeTo enc most w e w') : MdQ enc w e w' := by
  obtain ⟨vC, vE, C, E, rfl, h1, h2, h3, -, h5, h6, h7⟩ := h
  obtain ⟨ac, cc, rfl, -⟩ := h5.row
  obtain ⟨ae, ce, rfl, -⟩ := h6.row
  exact ⟨C, E, ac, cc, ae, ce, rfl, hide_ ⟨h1, h2, by omega, h5, h6⟩, hide_ h7⟩
theorem LeTo.q {enc : Bool} {C : List In} {E : List Int} {w w' : World} {e : Ending} (hK : Chk enc C E) (h0 : 0 < C.length) (h1 : C.length ≤ 100) (h : LeTo enc C E w e w') : MdQ enc w e w' := by
  obtain ⟨gC, cC, gE, cE, rfl, hL, hB⟩ := h
  exact ⟨C, E, _, _, _, _, rfl, hide_ ⟨hK, h0, h1, hL.out.c.cut1, hL.out.e.cut1⟩, hB⟩
theorem md_fin {fn : Func} {p : Tmp} (hf : fn.results = #[.cell p 25]) {enc : Bool} {w w1 w2 : World} {C : List In} {E : List Int} {ac ae : Option Addr} {cc ce : Nat} {tmps : Array Value} (hB1 : Below w.heap.size w w1) (KF : Blk w2 (w.heap.size + 1) 25 [.bool false, .slice none 0 0, .slice none 0 0]) (hlt : w.heap.size + 1 < w1.heap.size)
    (hp : tmps.getD p undef = .pointer (some ⟨w.heap.size + 1, 0, none⟩)) (h : Chk enc C E ∧ 0 < C.length ∧ C.length ≤ 100 ∧ COwn w2 w1.heap.size (.slice ac C.length cc) C ∧ IOwn w2 w1.heap.size (.slice ae E.length ce) E) (hB2 : Below w1.heap.size w1 w2) :
    bodyPost Try.prog fn (Md15 enc w) Exit.ret ⟨tmps, []⟩ (((w2.setCell ⟨w.heap.size + 1, 0, none⟩ (.bool enc)).setCell ⟨w.heap.size + 1, 1, none⟩ (.slice ac C.length cc)).setCell ⟨w.heap.size + 1, 2, none⟩ (.slice ae E.length ce)) := by
  refine retP hf hp (setP KF _ _ _) ?_
  have hu := upd3 w2 (w.heap.size + 1) (.bool enc) (.slice ac C.length cc) (.slice ae E.length ce)
  refine ⟨C, E, ac, cc, ae, ce, rfl, h.1, h.2.1, h.2.2.1, own_base (ownS_upd h.2.2.2.1 hu (fun k hk e => by have := (World.ownsRow.lt h.2.2.2.1 k hk).1; omega)) hB1.size, own_base (owns_upd h.2.2.2.2 hu (fun k hk e => by have := (h.2.2.2.2.lies hk).1; omega)) hB1.size, below_wr3 (below_to hB1 hB2) (by omega) _ _ _⟩
set_option maxRecDepth 100000 in
set_option maxHeartbeats 16000000 in
theorem made15_any (enc : Bool) (ac ae : Option Addr) (cc ce : Nat) (C : List In) (E : List Int) (w : World) (hCl : C.length ≤ 4398046511104) (hel : E.length ≤ 17592186044415) (hcn : ac = none → cc = 0) (hen : ae = none → ce = 0) (hr : Hid (IRow w ac C)) (he : Hid (Row .i64 w ae E)) :
    Calls Try.prog 9 #[.agg #[.bool enc, .slice ac C.length cc, .slice ae E.length ce]] w (Md15 enc w) := by
  obtain ⟨w1, hw1⟩ : ∃ wx, (w.alloc (.cells #[.bool enc, .slice ac C.length cc, .slice ae E.length ce] 25)).alloc (.cells #[.bool false, .slice none 0 0, .slice none 0 0] 25) = wx := ⟨_, rfl⟩
  have hB1 : Below w.heap.size w w1 := by rw [← hw1]; exact below2 _ _ _
  obtain ⟨kp, kf⟩ := blk2 w #[.bool enc, .slice ac C.length cc, .slice ae E.length ce] #[.bool false, .slice none 0 0, .slice none 0 0] 25 25
  rw [hw1] at kp kf
  have hlt := kf.lt
  have p0 := kp.cell 0; have p1 := kp.cell 1; have p2 := kp.cell 2
  simp at p0 p1 p2
  have KP := hide_ kp
  have KF := hide_ kf
  have HB1 := hide_ hB1
  have Hlt := hide_ hlt
  have HMd : Hid (∀ w', Below w1.heap.size w1 w' → Calls Try.prog 12 #[.agg #[.bool enc, .slice ac C.length cc, .slice ae E.length ce], .int .i64 60] w' (MdQ enc w')) := hide_ (fun w' hB => by
    have h1 := below_to hB1 hB
    exact (rmade_any enc ac ae cc ce C E 60 w' (by omega) hCl hel hcn hen (hide_ (hr.out.later h1)) (hide_ (he.out.later h1))).mono (fun e w2 h => h.q (by omega)))
  clear kp kf hB1 hlt
  by_cases h1 : C.length < 1
  · have h1' : (C.length : Int) < 1 := by omega
    go_enter Try.func9, Try.ntmps9
    go_upto_region 1 with fail
    try rw [hw1]
    clear hw1
    go_wp2_with fail
    refine (HMd.out w1 (Below.refl _ _)).mono ?_
    rintro e w2 ⟨C2, E2, a2, c2, b2, d2, rfl, HQ, HB2⟩
    have KF2 := hide_ (KF.out.later HB2.out)
    have z0 := KF2.out.cell 0; have z1 := KF2.out.cell 1; have z2 := KF2.out.cell 2
    have zf := fun i => KF2.out.frozen i
    simp at z0 z1 z2
    go_wp2_with fail
    exact md_fin rfl HB1.out KF2.out Hlt.out rfl HQ.out HB2.out
  have h1' : ¬ (C.length : Int) < 1 := by omega
  by_cases h2 : 100 < C.length
  · have h2' : (100 : Int) < C.length := by omega
    go_enter Try.func9, Try.ntmps9
    go_upto_region 1 with fail
    try rw [hw1]
    clear hw1
    go_wp2_with fail
    refine (HMd.out w1 (Below.refl _ _)).mono ?_
    rintro e w2 ⟨C2, E2, a2, c2, b2, d2, rfl, HQ, HB2⟩
    have KF2 := hide_ (KF.out.later HB2.out)
    have z0 := KF2.out.cell 0; have z1 := KF2.out.cell 1; have z2 := KF2.out.cell 2
    have zf := fun i => KF2.out.frozen i
    simp at z0 z1 z2
    go_wp2_with fail
    exact md_fin rfl HB1.out KF2.out Hlt.out rfl HQ.out HB2.out
  have h2' : ¬ (100 : Int) < C.length := by omega
  by_cases h3 : 20 < E.length
  · have h3' : (20 : Int) < E.length := by omega
    go_enter Try.func9, Try.ntmps9
    go_upto_region 1 with fail
    try rw [hw1]
    clear hw1
    go_wp2_with fail
    refine (HMd.out w1 (Below.refl _ _)).mono ?_
    rintro e w2 ⟨C2, E2, a2, c2, b2, d2, rfl, HQ, HB2⟩
    have KF2 := hide_ (KF.out.later HB2.out)
    have z0 := KF2.out.cell 0; have z1 := KF2.out.cell 1; have z2 := KF2.out.cell 2
    have zf := fun i => KF2.out.frozen i
    simp at z0 z1 z2
    go_wp2_with fail
    exact md_fin rfl HB1.out KF2.out Hlt.out rfl HQ.out HB2.out
  have h3' : ¬ (20 : Int) < E.length := by omega
  obtain ⟨K, hK⟩ : ∃ K, chk enc C E = K := ⟨_, rfl⟩
  have HCk := hide_ (rcheck_any enc ac ae cc ce C E w1 (by omega) (by omega) (hide_ (hr.out.later HB1.out)) (hide_ (he.out.later HB1.out)))
  rw [hK] at HCk
  go_enter Try.func9, Try.ntmps9
  go_upto_region 1 with fail
  try rw [hw1]
  clear hw1
  go_wp2_with fail
  refine HCk.out.mono ?_
  rintro e w3 ⟨rfl, hB3⟩
  have KP3 := hide_ (KP.out.later hB3)
  have KF3 := hide_ (KF.out.later hB3)
  have HB3 := hide_ hB3
  clear p0 p1 p2 HCk hB3
  have p0 := KP3.out.cell 0; have p1 := KP3.out.cell 1; have p2 := KP3.out.cell 2
  simp at p0 p1 p2
  have hfl := fld0 (.int .i64 K.1) (.int .i64 K.2) w3
  by_cases h0 : K.1 = 0
  · have f0 : (K.1 == 0) = true := by simpa using h0
    have HLe : Hid (Calls Try.prog 18 #[.agg #[.bool enc, .slice ac C.length cc, .slice ae E.length ce]] w3 (MdQ enc w3)) := hide_ (by
      have h5 := below_to HB1.out HB3.out
      have hKk : Chk enc C E := chk_ok.1 (chk_zero (by rw [hK]; exact h0))
      exact (lend_any enc ac ae cc ce C E w3 (by omega) (by omega) hcn hen (hide_ (hr.out.later h5)) (hide_ (he.out.later h5))).mono (fun e w2 h => h.q hKk (by omega) (by omega)))
    clear h0
    go_wp2_with fail
    refine HLe.out.mono ?_
    rintro e w2 ⟨C2, E2, a2, c2, b2, d2, rfl, HQ, HB2⟩
    have KF2 := hide_ (KF3.out.later HB2.out)
    have z0 := KF2.out.cell 0; have z1 := KF2.out.cell 1; have z2 := KF2.out.cell 2
    have zf := fun i => KF2.out.frozen i
    simp at z0 z1 z2
    go_wp2_with fail
    exact md_fin rfl (below_to HB1.out HB3.out) KF2.out (Nat.lt_of_lt_of_le Hlt.out HB3.out.size) rfl HQ.out HB2.out
  · have f0 : (K.1 == 0) = false := by simpa using h0
    clear h0
    go_wp2_with fail
    refine (HMd.out w3 HB3.out).mono ?_
    rintro e w2 ⟨C2, E2, a2, c2, b2, d2, rfl, HQ, HB2⟩
    have KF2 := hide_ (KF3.out.later HB2.out)
    have z0 := KF2.out.cell 0; have z1 := KF2.out.cell 1; have z2 := KF2.out.cell 2
    have zf := fun i => KF2.out.frozen i
    simp at z0 z1 z2
    go_wp2_with fail
    exact md_fin rfl (below_to HB1.out HB3.out) KF2.out (Nat.lt_of_lt_of_le Hlt.out HB3.out.size) rfl HQ.out HB2.out
end Go.Proofs.Ytnmffeeieclmfaa

/- SoundEnds: the walk. -/
namespace Go.Proofs.Ytnmffeeieclmfaa
open Go.RowKit
set_option linter.unusedVariables false
set_option linter.unusedSimpArgs false

theorem shp_came {enc : Bool} {s : St} (hs : SOk s) (h : s.pl ≠ 0) : mShp enc s ≠ -1 := by
  have h1 := hs.le
  have h2 := ocI_in (s.ki : Int)
  unfold mShp eShp dShp
  repeat' split
  all_goals omega
theorem shp_not {enc : Bool} {s : St} (h : s.pl = 0) : mShp enc s = -1 := by
  unfold mShp eShp dShp
  split
  · simp [h]
  · simp [h]
theorem ret_shp {enc : Bool} {s : St} {x : In} {r : Int} (hs : SOk s) (ho : x.op = 20) (h : mSt enc s x r = true) : mShp enc s ≠ 0 := by
  have h2 := ocI_in (s.ki : Int)
  unfold mSt at h
  split at h
  · rename_i he
    unfold eSt at h
    rw [if_neg (by omega), if_neg (by omega), if_neg (by omega), if_neg (by omega), if_neg (by omega), if_neg (by omega), if_pos ho] at h
    have e := (stEq_iff _ _).1 h
    rw [e, he]
    decide
  · rename_i he
    unfold dSt at h
    rw [if_neg (by omega), if_neg (by omega), if_neg (by omega), if_neg (by omega), if_neg (by omega), if_neg (by omega), if_neg (by omega), if_neg (by omega), if_neg (by omega), if_neg (by omega), if_pos ho] at h
    have hp : s.pl ≠ 2 ∧ s.pl ≠ 0 := by
      unfold wholeP at h
      split at h
      · omega
      split at h
      · omega
      · cases h
    unfold mShp dShp
    rw [if_neg he, if_neg hp.2, if_neg hp.1]
    split <;> omega
theorem arm_no {enc : Bool} {s : St} {x : In} {r : Int} (ho : x.op = 9) : mSt enc s x r = false := by
  unfold mSt
  split
  · unfold eSt
    rw [if_neg (by omega), if_neg (by omega), if_neg (by omega), if_neg (by omega), if_neg (by omega), if_neg (by omega), if_neg (by omega)]
    simp [ho]
  · unfold dSt
    rw [if_neg (by omega), if_neg (by omega), if_neg (by omega), if_neg (by omega), if_neg (by omega), if_neg (by omega), if_neg (by omega), if_neg (by omega), if_neg (by omega), if_neg (by omega), if_neg (by omega)]
    simp [ho]
def tgP (op : Int) : Bool := decide (op = 7 ∨ op = 9 ∨ op = 11 ∨ op = 12 ∨ op = 13 ∨ op = 14 ∨ op = 15 ∨ op = 19 ∨ op = 40 ∨ op = 47)
/-- What SoundEnds asks of each instruction. -/
structure EndI (enc : Bool) (C : List In) (L : List Int) (i : Nat) (x : In) : Prop where
  ret : x.op = 20 → hAt L i ≠ 0
  arm : x.op ≠ 9
  un : x.op = 8 ∨ x.op = 41 → (1 ≤ x.a ∧ x.a ≤ 64) ∧ ∀ q : Nat, 1 ≤ q → (q : Int) ≤ x.a → i + q < C.length ∧ ∃ y : Nat, (inA C (i + q)).b = (y : Int) ∧ y < C.length ∧ hAt L y ≠ -1
  tgt : x.op ≠ 20 → x.op ≠ 9 → x.op ≠ 8 → x.op ≠ 41 → tgP x.op = true → ∃ y : Nat, x.b = (y : Int) ∧ y < C.length ∧ hAt L y ≠ -1
  nxt : x.op ≠ 20 → x.op ≠ 9 → x.op ≠ 8 → x.op ≠ 41 → x.op ≠ 19 → i + 1 < C.length ∧ hAt L (i + 1) ≠ -1
theorem shP_at {enc : Bool} {C : List In} {E : List Int} {k : Nat} (hk : k < (stP enc C E).length) : hAt (shP enc C E) k = mShp enc (stA (stP enc C E) k) := by
  unfold hAt shP stA
  simp [List.getD, hk]
theorem vf_first {enc : Bool} {C : List In} {E : List Int} (hK : Chk enc C E) (h : (vfP enc C E).1 = 0) : (firstP enc C E 0 (List.replicate C.length st0)).1 = 1048576 := by
  unfold vfP at h
  have hc : (chk enc C E).1 = 0 := by rw [chk_ok.2 hK]
  rw [if_neg (fun h => h hc)] at h
  by_cases h1 : (firstP enc C E 0 (List.replicate C.length st0)).1 = 1048576
  · exact h1
  · rw [if_pos h1] at h
    cases h
theorem ends_ok {enc : Bool} {C : List In} {E : List Int} (hK : Chk enc C E) (h : (vfP enc C E).1 = 0) : (∀ i, i < E.length → ∃ y : Nat, E.getD i 0 = (y : Int) ∧ y < C.length ∧ hAt (shP enc C E) y ≠ -1) ∧ ∀ i, i < C.length → hAt (shP enc C E) i ≠ -1 → EndI enc C (shP enc C E) i (inA C i) := by
  have h1 := vf_first hK h
  obtain ⟨a1, a2, a3, a4⟩ := firstP_all hK h1
  have hst := taken_std hK h1
  have hsh : ∀ y : Int, 0 ≤ y → y < (C.length : Int) → cameP (stP enc C E) y.toNat = true → ∃ z : Nat, y = (z : Int) ∧ z < C.length ∧ hAt (shP enc C E) z ≠ -1 := fun y y0 y1 hc => by
    refine ⟨y.toNat, by omega, by omega, ?_⟩
    rw [shP_at (by rw [a2]; omega)]
    exact shp_came (a1 _) (by unfold cameP at hc; simpa using hc)
  refine ⟨fun i hi => ?_, fun i hi hl => ?_⟩
  · have e1 := hK.ent i hi
    have e2 : E.getD i 0 ∈ E := by
      have e : E.getD i 0 = E[i] := by simp [List.getD, hi]
      rw [e]
      exact List.getElem_mem hi
    exact hsh _ e1.1 e1.2 (a4 _ e2)
  · have hc : cameP (stP enc C E) i = true := by
      rw [shP_at (by rw [a2]; exact hi)] at hl
      unfold cameP
      by_cases hp : (stA (stP enc C E) i).pl = 0
      · exact absurd (shp_not hp) hl
      · simpa using hp
    obtain ⟨r, hr⟩ := hst i hi hc
    obtain ⟨hin, hcl⟩ := a3 i hi hc
    have hw : ∀ y ∈ waysP C i, ∃ z : Nat, y = (z : Int) ∧ z < C.length ∧ hAt (shP enc C E) z ≠ -1 := fun y hy => hsh y (hin y hy).1 (hin y hy).2 (hcl y hy)
    refine ⟨fun ho => ?_, fun ho => ?_, fun ho => ?_, fun h20 h9 h8 h41 ht => ?_, fun h20 h9 h8 h41 h19 => ?_⟩
    · rw [shP_at (by rw [a2]; exact hi)]
      exact ret_shp (a1 i) ho hr
    · rw [arm_no ho] at hr
      cases hr
    · have ha := hK.cdok.arm i hi ho
      refine ⟨⟨ha.1, ha.2.1⟩, fun q q1 q2 => ⟨by omega, ?_⟩⟩
      refine hw _ ?_
      unfold waysP
      rw [if_neg (by omega), if_neg (by omega), if_pos ho]
      refine List.mem_map.2 ⟨q - 1, List.mem_range.2 (by omega), ?_⟩
      rw [show i + 1 + (q - 1) = i + q by omega]
    · refine hw _ ?_
      unfold tgP at ht
      have ht := of_decide_eq_true ht
      unfold waysP
      by_cases h19 : (inA C i).op = 19
      · rw [if_pos h19]; simp
      · rw [if_neg h19, if_neg h20, if_neg (by omega), if_pos (by omega)]
        simp
    · have hm : (i : Int) + 1 ∈ waysP C i := by
        unfold waysP
        rw [if_neg h19, if_neg h20, if_neg (by omega)]
        split <;> simp
      obtain ⟨z, z1, z2, z3⟩ := hw _ hm
      have e : z = i + 1 := by omega
      rw [e] at z2 z3
      exact ⟨z2, z3⟩
set_option maxRecDepth 100000 in
set_option maxHeartbeats 16000000 in
theorem targets_any (op : Int) (w : World) : Calls Try.prog 13 #[.int .i64 op] w fun e w' => e = .returned (.bool (tgP op)) ∧ w = w' := by
  obtain ⟨d, hd⟩ : ∃ d, tgP op = d := ⟨_, rfl⟩
  rw [hd]
  unfold tgP at hd
  have Hd := hide_ hd
  clear hd
  cases d
  · have h := of_decide_eq_false Hd.out
    have f1 : (op == 7) = false := by simp; omega
    have f2 : (op == 9) = false := by simp; omega
    have f3 : (op == 11) = false := by simp; omega
    have f4 : (op == 12) = false := by simp; omega
    have f5 : (op == 13) = false := by simp; omega
    have f6 : (op == 14) = false := by simp; omega
    have f7 : (op == 15) = false := by simp; omega
    have f8 : (op == 19) = false := by simp; omega
    have f9 : (op == 40) = false := by simp; omega
    have f10 : (op == 47) = false := by simp; omega
    clear h
    go_enter Try.func13, Try.ntmps13
    go_wp2
    go_ret
    exact ⟨rfl, rfl⟩
  · have h := of_decide_eq_true Hd.out
    have H := hide_ h
    clear h Hd
    go_enter Try.func13, Try.ntmps13
    rcases H.out with rfl | rfl | rfl | rfl | rfl | rfl | rfl | rfl | rfl | rfl <;> (clear H; go_wp2; go_ret; exact ⟨rfl, rfl⟩)
set_option maxRecDepth 100000 in
set_option maxHeartbeats 16000000 in
theorem sends_any (en0 : Bool) (a0 b0 : Option Addr) (c0 d0 : Nat) (P0 : List In) (E0 : List Int) (w : World) (hP1 : P0.length ≤ 4398046511104) (hE1 : E0.length ≤ 17592186044415) (n1 : a0 = none → c0 = 0) (m1 : b0 = none → d0 = 0) (r1 : Hid (IRow w a0 P0)) (s1 : Hid (Row .i64 w b0 E0)) :
    Calls Try.prog 6 #[.agg #[.bool en0, .slice a0 P0.length c0, .slice b0 E0.length d0]] w fun e w' => e = .returned (.bool true) ∧ Below w.heap.size w w' := by
  obtain ⟨w0, hw0⟩ : ∃ w0, w.alloc (.cells #[.bool en0, .slice a0 P0.length c0, .slice b0 E0.length d0] 25) = w0 := ⟨_, rfl⟩
  have hB0 : Below w.heap.size w w0 := by rw [← hw0]; exact below1 _ _
  have hK0 : Blk w0 w.heap.size 25 [.bool en0, .slice a0 P0.length c0, .slice b0 E0.length d0] := by rw [← hw0]; exact Blk.newA _ _ _
  have HK0 := hide_ hK0
  have HB0 := hide_ hB0
  have HM1 : Hid (∀ w', Below w.heap.size w w' → Calls Try.prog 9 #[.agg #[.bool en0, .slice a0 P0.length c0, .slice b0 E0.length d0]] w' (Md15 en0 w')) := hide_ (fun w' hB => made15_any en0 a0 b0 c0 d0 P0 E0 w' hP1 hE1 n1 m1 (hide_ (r1.out.later hB)) (hide_ (s1.out.later hB)))
  clear r1 s1 n1 m1 hB0 hK0
  go_enter Try.func6, Try.ntmps6
  go_upto_region 1 with fail
  try rw [hw0]
  clear hw0
  go_wp2_with fail
  refine (first15_any w0).mono ?_
  rintro e w1 ⟨rfl, hB1⟩
  have HB1 := hide_ (below_to HB0.out hB1)
  have K1 := HK0.out.later hB1
  have p0 := K1.cell 0; have p1 := K1.cell 1; have p2 := K1.cell 2
  simp at p0 p1 p2
  have HMa := hide_ (HM1.out w1 HB1.out)
  clear hB1 HB0 HK0 K1
  go_wp2_with fail
  refine HMa.out.mono ?_
  rintro e w2 hT2
  obtain ⟨C, E, ac, cc, ae, ce, rfl, hCk, hn0, hn1, hCo, hEo, hB2⟩ := hT2
  clear HMa p0 p1 p2
  go_upto_region 4 with fail
  obtain ⟨w3, hw3⟩ : ∃ wx, w2.alloc (.cells #[.bool en0, .slice ac C.length cc, .slice ae E.length ce] 25) = wx := ⟨_, rfl⟩
  have hB3 : Below w2.heap.size w2 w3 := by rw [← hw3]; exact below1 _ _
  have hK3 : Blk w3 w2.heap.size 25 [.bool en0, .slice ac C.length cc, .slice ae E.length ce] := by rw [← hw3]; exact Blk.newA _ _ _
  obtain ⟨qp, hqp⟩ : ∃ qp, w2.heap.size = qp := ⟨_, rfl⟩
  try rw [hw3]
  rw [hqp] at hK3 ⊢
  have hcap := hCo.capM
  obtain ⟨a, c, e1, e2, -, e4⟩ := hCo.row
  injection e1 with e1 _ e3
  subst e1 e3
  obtain ⟨a, c, f1, f2, -, f4⟩ := hEo.row
  injection f1 with f1 _ f3
  subst f1 f3
  have HR3 := hide_ (e4.later hB3)
  have HE3 := hide_ (f2.later hB3)
  have HB3 := hide_ (below_to (below_to HB1.out hB2) hB3)
  have HK3 := hide_ hK3
  have hel : E.length ≤ 1048576 := hCk.ne
  have HCk := hide_ hCk
  have p0 := hK3.cell 0; have p1 := hK3.cell 1; have p2 := hK3.cell 2
  simp at p0 p1 p2
  have HSh := hide_ (shape_any en0 ac ae cc ce C E w3 e2 hcap (by omega) f4 (by omega) HR3 HE3)
  clear hw3 hqp hB2 hB3 hK3 hCo hEo e4 f2 hCk HB1
  go_wp2_with fail
  refine HSh.out.mono ?_
  rintro e w4 ⟨hB4, hT4⟩
  have HB4 := hide_ (below_to HB3.out hB4)
  have HK4 := hide_ (HK3.out.later hB4)
  have HR4 := hide_ (HR3.out.later hB4)
  have HE4 := hide_ (HE3.out.later hB4)
  clear HSh p0 p1 p2 HK3 HR3 HE3 HB3 hB4
  rcases hT4 with ⟨h1, h2, -, hl, g, rfl, -, hb⟩ | ⟨h1, rfl⟩
  · go_upto_region 5 with fail
    obtain ⟨w5, hw5⟩ : ∃ wx, w4.alloc (.cells #[.int .i64 0, .int .i64 0] 30) = wx := ⟨_, rfl⟩
    have hB5 : Below w4.heap.size w4 w5 := by rw [← hw5]; exact below1 _ _
    have hK5 : Blk w5 w4.heap.size 30 [.int .i64 0, .int .i64 0] := by rw [← hw5]; exact Blk.newA _ _ _
    try rw [hw5]
    clear hw5
    have z0 := hK5.cell 0; have z1 := hK5.cell 1
    simp at z0 z1
    obtain ⟨LL, hLL⟩ : ∃ LL, shP en0 C E = LL := ⟨_, rfl⟩
    obtain ⟨x1, x2⟩ := ends_ok HCk.out h1
    rw [hLL] at x1 x2 hb hl
    have Hx1 := hide_ x1
    have Hx2 := hide_ x2
    have Hl := hide_ hl
    obtain ⟨n, hn⟩ : ∃ n, C.length = n := ⟨_, rfl⟩
    have Hn := hide_ hn
    obtain ⟨bc, oc, hac, hbc, hcc⟩ := HR4.out.open hn0
    subst hac
    have HKx : Hid (∀ W, Below w5.heap.size w5 W → W.cell? ⟨qp, 1, none⟩ = some (.slice (some ⟨bc, oc, none⟩) n cc) ∧ W.cell? ⟨qp, 2, none⟩ = some (.slice ae E.length ce) ∧ IRow W (some ⟨bc, oc, none⟩) C ∧ Row .i64 W ae E ∧ ∀ k, k < n → W.cell? ⟨g, k, none⟩ = some (.int .i64 (hAt LL k))) := hide_ (fun W hB => by
      have hBB := below_to hB5 hB
      have k1 := (HK4.out.later hBB).cell 1
      have k2 := (HK4.out.later hBB).cell 2
      simp at k1 k2
      rw [hn] at k1
      refine ⟨k1, k2, HR4.out.later hBB, HE4.out.later hBB, fun k hk => ?_⟩
      rw [(hb.later hBB).cell, cellsL_at .i64 LL k (by omega)]
      rfl)
    have HB5 := hide_ (below_to HB4.out hB5)
    obtain ⟨k1, -⟩ := HKx.out w5 (Below.refl _ _)
    try rw [hn]
    have hn9 : n ≤ 1048576 := by have := HCk.out.nc; omega
    have hn0' : 0 < n := by omega
    clear h1 h2 hl hb hB5 hK5 hLL x1 x2 hbc hcc HK4 HR4 HE4 HB4 hn hn0 hn1 e2 hcap f4
    go_wp2_with fail
    clear k1 z0 z1
    go_loopw [6] (fun x6 wr => ∃ j : Nat, j ≤ E.length ∧ x6 = .int .i64 (j : Int) ∧ w5 = wr) (fun x6 _ => E.length - (intOf x6).toNat)
    case atStart => exact ⟨0, Nat.zero_le _, rfl, rfl⟩
    case round =>
      obtain ⟨j, hj, rfl, rfl⟩ := hrel
      obtain ⟨k1, k2, hR, hE, hL⟩ := HKx.out w5 (Below.refl _ _)
      by_cases hlt : j < E.length
      · have hlt' : (j : Int) < (E.length : Int) := by omega
        obtain ⟨be, oe, hae, -, hcE⟩ := hE.open (by omega)
        have ce1 := hcE j hlt
        obtain ⟨y, ey, hy, hz⟩ := Hx1.out j hlt
        rw [Hn.out] at hy
        rw [ey] at ce1
        have cl := hL y hy
        have hy' : (y : Int) < (n : Int) := by omega
        have f0 : (hAt LL y == -1) = false := by simpa using hz
        subst hae
        clear hR hE hL hcE ey hz
        go_wp2_with fail
        go_roundw
        case rel => exact ⟨j + 1, by omega, by go_num, trivial⟩
        case measure => simp [intOf]; omega
      · have hlt' : ¬ ((j : Int) < (E.length : Int)) := by omega
        clear hR hE hL
        go_wp2_with fail
        clear k1 k2
        go_loopw [7] (fun x7 wr => ∃ i : Nat, i ≤ n ∧ x7 = .int .i64 (i : Int) ∧ Hid (Below w5.heap.size w5 wr)) (fun x7 _ => n - (intOf x7).toNat)
        case atStart => exact ⟨0, Nat.zero_le _, rfl, hide_ (Below.refl _ _)⟩
        case round =>
          obtain ⟨i, hi, rfl, HBi⟩ := hrel
          generalize wr = wq at *
          by_cases hil : i < n
          · have hil' : (i : Int) < (n : Int) := by omega
            obtain ⟨k1, -, hR, -, hL⟩ := HKx.out wq HBi.out
            have cl := hL i hil
            obtain ⟨x, hx⟩ : ∃ x, C[i]? = some x := ⟨_, List.getElem?_eq_getElem (by rw [Hn.out]; exact hil)⟩
            obtain ⟨i0, i1, i2, i3⟩ := hR.at hx
            have hxA : inA C i = x := inA_at hx
            obtain ⟨w6, hw6⟩ : ∃ wx, wq.alloc (.cells #[.int .i64 x.op, .int .i64 x.a, .int .i64 x.b, .int .i64 x.c] 36) = wx := ⟨_, rfl⟩
            have hB6 : Below wq.heap.size wq w6 := by rw [← hw6]; exact below1 _ _
            have KX : Blk w6 wq.heap.size 36 (inc x) := by rw [← hw6]; exact Blk.newA _ _ _
            obtain ⟨qx, hqx⟩ : ∃ qx, wq.heap.size = qx := ⟨_, rfl⟩
            have HB6 := hide_ (below_to HBi.out hB6)
            go_upto_region 18 with fail
            try rw [hw6]
            rw [hqx] at KX
            try rw [hqx]
            obtain ⟨j0, j1, j2, j3⟩ := KX.ci
            obtain ⟨k1, -, hR, -, hL⟩ := HKx.out w6 HB6.out
            have cl := hL i hil
            have HKX := hide_ KX
            obtain ⟨v, hv⟩ : ∃ v, hAt LL i = v := ⟨_, rfl⟩
            rw [hv] at cl
            have Hen : Hid (v ≠ -1 → EndI en0 C LL i x) := hide_ (fun h => by
              have := Hx2.out i (by rw [Hn.out]; exact hil) (by rw [hv]; exact h)
              rw [hxA] at this
              exact this)
            have Hv := hide_ hv
            have HL6 := hide_ hL
            have HR6 := hide_ hR
            clear hx i0 i1 i2 i3 hxA hw6 hB6 KX hqx hv hL hR HBi
            by_cases hv1 : v = -1
            · have f0 : (v == -1) = true := by simpa using hv1
              clear hv1
              go_wp2_with fail
              go_roundw
              case rel => exact ⟨i + 1, by omega, by go_num, HB6⟩
              case measure => simp [intOf]; omega
            have f0 : (v == -1) = false := by simpa using hv1
            have hE := Hen.out hv1
            clear hv1 Hen
            by_cases h20 : x.op = 20
            · have g0 : (x.op == 20) = true := by simpa using h20
              have g1 : (v == 0) = false := by have := hE.ret h20; rw [Hv.out] at this; simpa using this
              clear hE h20
              go_wp2_with fail
              go_roundw
              case rel => exact ⟨i + 1, by omega, by go_num, HB6⟩
              case measure => simp [intOf]; omega
            have g0 : (x.op == 20) = false := by simpa using h20
            have g9 : (x.op == 9) = false := by simpa using hE.arm
            by_cases hun : x.op = 8 ∨ x.op = 41
            · obtain ⟨ha, hq⟩ := hE.un hun
              have Hq := hide_ hq
              clear hE hq
              by_cases h8 : x.op = 8
              · have g8 : (x.op == 8) = true := by simpa using h8
                clear h8 hun h20
                go_wp2_with fail
                go_loopw [9] (fun x9 wr => ∃ q : Nat, 1 ≤ q ∧ (q : Int) ≤ x.a + 1 ∧ x9 = .int .i64 (q : Int) ∧ w6 = wr) (fun x9 _ => (x.a + 1 - intOf x9).toNat)
                case atStart => exact ⟨1, by omega, by omega, rfl, rfl⟩
                case round =>
                  obtain ⟨q, q1, q2, rfl, rfl⟩ := hrel
                  by_cases hqa : (q : Int) ≤ x.a
                  · obtain ⟨u1, y, ey, hy, hz⟩ := Hq.out q q1 hqa
                    rw [Hn.out] at u1 hy
                    obtain ⟨m, hm⟩ : ∃ m, i + q = m := ⟨_, rfl⟩
                    rw [hm] at u1 ey
                    obtain ⟨xq, hxq⟩ : ∃ xq, C[m]? = some xq := ⟨_, List.getElem?_eq_getElem (by rw [Hn.out]; exact u1)⟩
                    obtain ⟨-, -, m2, -⟩ := HR6.out.at hxq
                    rw [inA_at hxq] at ey
                    rw [ey] at m2
                    have cy := HL6.out y hy
                    have hy' : (y : Int) < (n : Int) := by omega
                    have u1' : (m : Int) < (n : Int) := by omega
                    have fy : (hAt LL y == -1) = false := by simpa using hz
                    have hwm : (i : Int) + (q : Int) = (m : Int) := by omega
                    clear ey hz hxq hm
                    go_wp2_with fail
                    go_roundw
                    case rel => exact ⟨q + 1, by omega, by omega, by go_num, trivial⟩
                    case measure => simp [intOf]; omega
                  · go_wp2_with fail
                    go_roundw
                    case rel => exact ⟨i + 1, by omega, by go_num, HB6⟩
                    case measure => simp [intOf]; omega
              · have g8 : (x.op == 8) = false := by simpa using h8
                have g41 : (x.op == 41) = true := by simp; omega
                clear h8 hun h20
                go_wp2_with fail
                go_loopw [9] (fun x9 wr => ∃ q : Nat, 1 ≤ q ∧ (q : Int) ≤ x.a + 1 ∧ x9 = .int .i64 (q : Int) ∧ w6 = wr) (fun x9 _ => (x.a + 1 - intOf x9).toNat)
                case atStart => exact ⟨1, by omega, by omega, rfl, rfl⟩
                case round =>
                  obtain ⟨q, q1, q2, rfl, rfl⟩ := hrel
                  by_cases hqa : (q : Int) ≤ x.a
                  · obtain ⟨u1, y, ey, hy, hz⟩ := Hq.out q q1 hqa
                    rw [Hn.out] at u1 hy
                    obtain ⟨m, hm⟩ : ∃ m, i + q = m := ⟨_, rfl⟩
                    rw [hm] at u1 ey
                    obtain ⟨xq, hxq⟩ : ∃ xq, C[m]? = some xq := ⟨_, List.getElem?_eq_getElem (by rw [Hn.out]; exact u1)⟩
                    obtain ⟨-, -, m2, -⟩ := HR6.out.at hxq
                    rw [inA_at hxq] at ey
                    rw [ey] at m2
                    have cy := HL6.out y hy
                    have hy' : (y : Int) < (n : Int) := by omega
                    have u1' : (m : Int) < (n : Int) := by omega
                    have fy : (hAt LL y == -1) = false := by simpa using hz
                    have hwm : (i : Int) + (q : Int) = (m : Int) := by omega
                    clear ey hz hxq hm
                    go_wp2_with fail
                    go_roundw
                    case rel => exact ⟨q + 1, by omega, by omega, by go_num, trivial⟩
                    case measure => simp [intOf]; omega
                  · go_wp2_with fail
                    go_roundw
                    case rel => exact ⟨i + 1, by omega, by go_num, HB6⟩
                    case measure => simp [intOf]; omega
            · have g8 : (x.op == 8) = false := by simp; omega
              have g41 : (x.op == 41) = false := by simp; omega
              have h9 := hE.arm
              obtain ⟨d, hd⟩ : ∃ d, tgP x.op = d := ⟨_, rfl⟩
              have HTg := hide_ (targets_any x.op w6)
              rw [hd] at HTg
              have Ht : Hid (d = true → ∃ y : Nat, x.b = (y : Int) ∧ y < n ∧ hAt LL y ≠ -1) := hide_ (fun h => by
                have := hE.tgt h20 h9 (by omega) (by omega) (by rw [hd]; exact h)
                rw [Hn.out] at this
                exact this)
              have Hnx : Hid (x.op ≠ 19 → i + 1 < n ∧ hAt LL (i + 1) ≠ -1) := hide_ (fun h => by
                have := hE.nxt h20 h9 (by omega) (by omega) h
                rw [Hn.out] at this
                exact this)
              clear hE h20 hun h9 hd
              go_wp2_with fail
              refine HTg.out.mono ?_
              rintro e w7 ⟨rfl, rfl⟩
              clear HTg
              cases d
              · by_cases h19 : x.op = 19
                · have g19 : (x.op != 19) = false := by simp [h19]
                  clear h19
                  go_wp2_with fail
                  go_roundw
                  case rel => exact ⟨i + 1, by omega, by go_num, HB6⟩
                  case measure => simp [intOf]; omega
                · have g19 : (x.op != 19) = true := by simpa using h19
                  obtain ⟨u1, u2⟩ := Hnx.out h19
                  have cn := HL6.out (i + 1) u1
                  have u1' : (i : Int) + 1 < (n : Int) := by omega
                  have fn : (hAt LL (i + 1) == -1) = false := by simpa using u2
                  have hwi : wrap64 ((i : Int) + 1) = (i : Int) + 1 := by rw [w64 _ (by omega)]
                  clear h19 u2
                  go_wp2_with fail
                  go_roundw
                  case rel => exact ⟨i + 1, by omega, by go_num, HB6⟩
                  case measure => simp [intOf]; omega
              · obtain ⟨y, ey, hy, hz⟩ := Ht.out rfl
                have cy := HL6.out y hy
                have hy' : (y : Int) < (n : Int) := by omega
                have fy : (hAt LL y == -1) = false := by simpa using hz
                rw [ey] at j2
                clear ey hz
                by_cases h19 : x.op = 19
                · have g19 : (x.op != 19) = false := by simp [h19]
                  clear h19
                  go_wp2_with fail
                  go_roundw
                  case rel => exact ⟨i + 1, by omega, by go_num, HB6⟩
                  case measure => simp [intOf]; omega
                · have g19 : (x.op != 19) = true := by simpa using h19
                  obtain ⟨u1, u2⟩ := Hnx.out h19
                  have cn := HL6.out (i + 1) u1
                  have u1' : (i : Int) + 1 < (n : Int) := by omega
                  have fn : (hAt LL (i + 1) == -1) = false := by simpa using u2
                  have hwi : wrap64 ((i : Int) + 1) = (i : Int) + 1 := by rw [w64 _ (by omega)]
                  clear h19 u2
                  go_wp2_with fail
                  go_roundw
                  case rel => exact ⟨i + 1, by omega, by go_num, HB6⟩
                  case measure => simp [intOf]; omega
          · have hil' : ¬ ((i : Int) < (n : Int)) := by omega
            have HX := hide_ (below_to HB5.out HBi.out)
            go_wp2_with fail
            go_ret
            exact ⟨rfl, HX.out⟩
  · rcases vf_rng HCk.out with h3 | ⟨h3, h4, h5⟩
    · rw [h3] at h1
      exact absurd rfl h1
    obtain ⟨at_, hat⟩ : ∃ at_, (vfP en0 C E).2 = at_ := ⟨_, rfl⟩
    rw [hat] at h4 h5
    rw [h3, hat]
    have HVe : Hid (∀ W, Below w4.heap.size w4 W → Calls Try.prog 14 #[.agg #[.bool en0, .slice ac C.length cc, .slice ae E.length ce]] W fun e w' => e = .returned (.agg #[.int .i64 150, .int .i64 at_]) ∧ Below W.heap.size W w') := hide_ (fun W hB => by
      have := verify_any en0 ac ae cc ce C E W e2 hcap (by omega) f4 (by omega) (hide_ (HR4.out.later hB)) (hide_ (HE4.out.later hB))
      rw [h3, hat] at this
      exact this)
    clear h1 h3 hat
    go_upto_region 5 with fail
    obtain ⟨w5, hw5⟩ : ∃ wx, w4.alloc (.cells #[.int .i64 150, .int .i64 at_] 30) = wx := ⟨_, rfl⟩
    have hB5 : Below w4.heap.size w4 w5 := by rw [← hw5]; exact below1 _ _
    have hK5 : Blk w5 w4.heap.size 30 [.int .i64 150, .int .i64 at_] := by rw [← hw5]; exact Blk.newA _ _ _
    obtain ⟨qf, hqf⟩ : ∃ qf, w4.heap.size = qf := ⟨_, rfl⟩
    try rw [hw5]
    rw [hqf] at hK5 ⊢
    have z0 := hK5.cell 0
    simp at z0
    have HS6 : Hid (∀ W, Below w5.heap.size w5 W → (fun w' => w'.cell? ⟨qf, 0, none⟩ = some (.int .i64 150) ∧ w'.cell? ⟨qf, 1, none⟩ = some (.int .i64 at_) ∧ w'.cell? ⟨qp, 0, none⟩ = some (.bool en0) ∧ w'.cell? ⟨qp, 1, none⟩ = some (.slice ac C.length cc) ∧ w'.cell? ⟨qp, 2, none⟩ = some (.slice ae E.length ce)) W) := hide_ (fun W hB => by
      have k := hK5.later hB
      have k2 := (HK4.out.later hB5).later hB
      exact ⟨by rw [k.cell 0]; rfl, by rw [k.cell 1]; rfl, by rw [k2.cell 0]; rfl, by rw [k2.cell 1]; rfl, by rw [k2.cell 2]; rfl⟩)
    have HB5 := hide_ (below_to HB4.out hB5)
    have HBv := hide_ hB5
    clear hw5 hK5 hqf hB5
    go_wp2_with fail
    clear z0
    refine wp_region_last 22 (fun w' => w'.cell? ⟨qf, 0, none⟩ = some (.int .i64 150) ∧ w'.cell? ⟨qf, 1, none⟩ = some (.int .i64 at_) ∧ w'.cell? ⟨qp, 0, none⟩ = some (.bool en0) ∧ w'.cell? ⟨qp, 1, none⟩ = some (.slice ac C.length cc) ∧ w'.cell? ⟨qp, 2, none⟩ = some (.slice ae E.length ce)) (by kernel_rfl) (HS6.out _ (Below.refl _ _).drew) (fun hHeld => ?_)
    obtain ⟨wz0, hz0⟩ : ∃ wx, w5.drew = wx := ⟨_, rfl⟩
    rw [hz0] at hHeld ⊢
    have HBz0 : Hid (Below w5.heap.size w5 wz0) := hide_ (by rw [← hz0]; exact (Below.refl _ _).drew)
    have hSz0 := hHeld
    clear hz0
    refine wpAnyF_take [22] (by kernel_rfl) (i := 0) (v := ?vp1) rfl (by kernel_rfl) (by kernel_rfl) (by kernel_rfl) (fun _ _ _ h => h) (Or.inl ⟨by kernel_rfl, ?hyp1⟩) hHeld ?restp1
    case hyp1 => intro w' hSw; (try dsimp only at hSw); go_simp; try with_reducible rfl
    simp only [Act.put]
    try dsimp only
    refine wpAnyF_take [22] (by kernel_rfl) (i := 1) (v := ?vp2) rfl (by kernel_rfl) (by kernel_rfl) (by kernel_rfl) (fun _ _ _ h => h) (Or.inl ⟨by kernel_rfl, ?hyp2⟩) hHeld ?restp2
    case hyp2 => intro w' hSw; (try dsimp only at hSw); go_simp; try with_reducible rfl
    simp only [Act.put]
    try dsimp only
    refine wpAnyF_take [22] (by kernel_rfl) (i := 2) (v := ?vp3) rfl (by kernel_rfl) (by kernel_rfl) (by kernel_rfl) (fun _ _ _ h => h) (Or.inl ⟨by kernel_rfl, ?hyp3⟩) hHeld ?restp3
    case hyp3 => intro w' hSw; (try dsimp only at hSw); go_simp; try with_reducible rfl
    simp only [Act.put]
    try dsimp only
    refine wpAnyF_take [22] (by kernel_rfl) (i := 3) (v := ?vp4) rfl (by kernel_rfl) (by kernel_rfl) (by kernel_rfl) (fun _ _ _ h => h) (Or.inl ⟨by kernel_rfl, ?hyp4⟩) hHeld ?restp4
    case hyp4 => intro w' hSw; (try dsimp only at hSw); go_simp; try with_reducible rfl
    simp only [Act.put]
    try dsimp only
    refine wpAnyF_take [22] (by kernel_rfl) (i := 4) (v := ?vp5) rfl (by kernel_rfl) (by kernel_rfl) (by kernel_rfl) (fun _ _ _ h => h) (Or.inl ⟨by kernel_rfl, ?hyp5⟩) hHeld ?restp5
    case hyp5 => intro w' hSw; (try dsimp only at hSw); go_simp; try with_reducible rfl
    simp only [Act.put]
    try dsimp only
    refine wpAnyF_take [22] (by kernel_rfl) (i := 5) (v := ?vp6) rfl (by kernel_rfl) (by kernel_rfl) (by kernel_rfl) (fun _ _ _ h => h) (Or.inl ⟨by kernel_rfl, ?hyp6⟩) hHeld ?restp6
    case hyp6 => intro w' hSw; (try dsimp only at hSw); go_simp; try with_reducible rfl
    simp only [Act.put]
    try dsimp only
    refine wpAnyF_take [22] (by kernel_rfl) (i := 6) (v := ?vp7) rfl (by kernel_rfl) (by kernel_rfl) (by kernel_rfl) (fun _ _ _ h => h) (Or.inl ⟨by kernel_rfl, ?hyp7⟩) hHeld ?restp7
    case hyp7 => intro w' hSw; (try dsimp only at hSw); go_simp; try with_reducible rfl
    simp only [Act.put]
    try dsimp only
    refine wpAnyF_take [22] (by kernel_rfl) (i := 7) (v := ?vp8) rfl (by kernel_rfl) (by kernel_rfl) (by kernel_rfl) (fun _ _ _ h => h) (Or.inl ⟨by kernel_rfl, ?hyp8⟩) hHeld ?restp8
    case hyp8 => intro w' hSw; (try dsimp only at hSw); go_simp; try with_reducible rfl
    simp only [Act.put]
    try dsimp only
    refine wpAnyF_take [22] (by kernel_rfl) (i := 8) (v := ?vp9) rfl (by kernel_rfl) (by kernel_rfl) (by kernel_rfl) (fun _ _ _ h => h) (Or.inl ⟨by kernel_rfl, ?hyp9⟩) hHeld ?restp9
    case hyp9 => intro w' hSw; (try dsimp only at hSw); go_simp; try with_reducible rfl
    simp only [Act.put]
    try dsimp only
    refine wpAnyF_take [22] (by kernel_rfl) (i := 9) (v := ?vp10) rfl (by kernel_rfl) (by kernel_rfl) (by kernel_rfl) (fun _ _ _ h => h) (Or.inl ⟨by kernel_rfl, ?hyp10⟩) hHeld ?restp10
    case hyp10 => intro w' hSw; (try dsimp only at hSw); go_simp; try with_reducible rfl
    simp only [Act.put]
    try dsimp only
    refine wpAnyF_take [22] (by kernel_rfl) (i := 10) (v := ?vp11) rfl (by kernel_rfl) (by kernel_rfl) (by kernel_rfl) (fun _ _ _ h => h) (Or.inl ⟨by kernel_rfl, ?hyp11⟩) hHeld ?restp11
    case hyp11 => intro w' hSw; (try dsimp only at hSw); go_simp; try with_reducible rfl
    simp only [Act.put]
    try dsimp only
    refine wpAnyF_take [22] (by kernel_rfl) (i := 11) (v := ?vp12) rfl (by kernel_rfl) (by kernel_rfl) (by kernel_rfl) (fun _ _ _ h => h) (Or.inl ⟨by kernel_rfl, ?hyp12⟩) hHeld ?restp12
    case hyp12 => intro w' hSw; (try dsimp only at hSw); go_simp; try with_reducible rfl
    simp only [Act.put]
    try dsimp only
    refine wpAnyF_take [22] (by kernel_rfl) (i := 12) (v := ?vp13) rfl (by kernel_rfl) (by kernel_rfl) (by kernel_rfl) (fun _ _ _ h => h) (Or.inl ⟨by kernel_rfl, ?hyp13⟩) hHeld ?restp13
    case hyp13 => intro w' hSw; (try dsimp only at hSw); go_simp; try with_reducible rfl
    simp only [Act.put]
    try dsimp only
    refine wpAnyF_take [22] (by kernel_rfl) (i := 13) (v := ?vp14) rfl (by kernel_rfl) (by kernel_rfl) (by kernel_rfl) (fun _ _ _ h => h) (Or.inl ⟨by kernel_rfl, ?hyp14⟩) hHeld ?restp14
    case hyp14 => intro w' hSw; (try dsimp only at hSw); go_simp; try with_reducible rfl
    simp only [Act.put]
    try dsimp only
    refine wpAnyF_take [22] (by kernel_rfl) (i := 14) (v := ?vp15) rfl (by kernel_rfl) (by kernel_rfl) (by kernel_rfl) (fun _ _ _ h => h) (Or.inl ⟨by kernel_rfl, ?hyp15⟩) hHeld ?restp15
    case hyp15 => intro w' hSw; (try dsimp only at hSw); go_simp; try with_reducible rfl
    simp only [Act.put]
    try dsimp only
    refine wpAnyF_take [22] (by kernel_rfl) (i := 15) (v := ?vp16) rfl (by kernel_rfl) (by kernel_rfl) (by kernel_rfl) (fun _ _ _ h => h) (Or.inl ⟨by kernel_rfl, ?hyp16⟩) hHeld ?restp16
    case hyp16 => intro w' hSw; (try dsimp only at hSw); go_simp; try with_reducible rfl
    simp only [Act.put]
    try dsimp only
    refine wpAnyF_take [22] (by kernel_rfl) (i := 16) (v := ?vp17) rfl (by kernel_rfl) (by kernel_rfl) (by kernel_rfl) (fun _ _ _ h => h) (Or.inl ⟨by kernel_rfl, ?hyp17⟩) hHeld ?restp17
    case hyp17 => intro w' hSw; (try dsimp only at hSw); go_simp; try with_reducible rfl
    simp only [Act.put]
    try dsimp only
    refine wpAnyF_take [22] (by kernel_rfl) (i := 17) (v := ?vp18) rfl (by kernel_rfl) (by kernel_rfl) (by kernel_rfl) (fun _ _ _ h => h) (Or.inl ⟨by kernel_rfl, ?hyp18⟩) hHeld ?restp18
    case hyp18 => intro w' hSw; (try dsimp only at hSw); go_simp; try with_reducible rfl
    simp only [Act.put]
    try dsimp only
    refine wpAnyF_take [22] (by kernel_rfl) (i := 19) (v := ?vp19) rfl (by kernel_rfl) (by kernel_rfl) (by kernel_rfl) (fun _ _ _ h => h) (Or.inl ⟨by kernel_rfl, ?hyp19⟩) hHeld ?restp19
    case hyp19 => intro w' hSw; (try dsimp only at hSw); go_simp; try with_reducible rfl
    simp only [Act.put]
    try dsimp only
    refine wpAnyF_ready (rs := [18]) (by kernel_rfl) (by simp) ?_
    refine AllReadyF.cons rfl (fun K hK => ?_) AllReadyF.nil
    go_simp
    refine (HVe.out wz0 (below_to HBv.out HBz0.out)).mono ?_
    rintro e w6 ⟨rfl, hB6⟩
    have HB6 := hide_ (below_to HBz0.out hB6)
    have hS6 := HS6.out w6 HB6.out
    clear hB6
    go_simp
    refine hK.out _ _ (hS6) (fun hHeld => ?_)
    clear hK K
    refine wpAnyF_take [22] (by kernel_rfl) (i := 20) (v := ?vp20) rfl (by kernel_rfl) (by kernel_rfl) (by kernel_rfl) (fun _ _ _ h => h) (Or.inl ⟨by kernel_rfl, ?hyp20⟩) hHeld ?restp20
    case hyp20 => intro w' hSw; (try dsimp only at hSw); go_simp; try with_reducible rfl
    simp only [Act.put]
    try dsimp only
    refine wpAnyF_take [22] (by kernel_rfl) (i := 21) (v := ?vp21) rfl (by kernel_rfl) (by kernel_rfl) (by kernel_rfl) (fun _ _ _ h => h) (Or.inl ⟨by kernel_rfl, ?hyp21⟩) hHeld ?restp21
    case hyp21 => intro w' hSw; (try dsimp only at hSw); go_simp; try with_reducible rfl
    simp only [Act.put]
    try dsimp only
    refine wpAnyF_ready (rs := [22]) (by kernel_rfl) (by simp) ?_
    refine AllReadyF.last rfl (fun K hK => ?_)
    go_simp
    refine hK.out _ _ ?_
    clear hK K
    refine wpAnyF_done (by kernel_rfl) ?_ _
    have HX := hide_ (below_to HB5.out HB6.out)
    go_wp2_with fail
    go_ret
    exact ⟨rfl, HX.out⟩
end Go.Proofs.Ytnmffeeieclmfaa

/- SoundDead, plain: instructions that are never come to may be others, and some may stand behind. -/
namespace Go.Proofs.Ytnmffeeieclmfaa
open Go.RowKit
set_option linter.unusedVariables false
set_option linter.unusedSimpArgs false

theorem kin_15 (op : Int) : (kin op).1 ≠ 15 ∧ (kin op).1 ≠ 16 ∧ ((kin op).2.1 = 15 → tgP op = true) ∧ (kin op).2.1 ≠ 16 ∧ (kin op).2.2 ≠ 15 ∧ ((kin op).2.2 = 16 → op = 16 ∨ op = 17 ∨ 44 ≤ op ∧ op ≤ 46) := by
  by_cases h : 0 ≤ op ∧ op < 48
  · have key : ∀ o : Fin 48, (kin (o.val : Int)).1 ≠ 15 ∧ (kin (o.val : Int)).1 ≠ 16 ∧ ((kin (o.val : Int)).2.1 = 15 → tgP (o.val : Int) = true) ∧ (kin (o.val : Int)).2.1 ≠ 16 ∧ (kin (o.val : Int)).2.2 ≠ 15 ∧ ((kin (o.val : Int)).2.2 = 16 → (o.val : Int) = 16 ∨ (o.val : Int) = 17 ∨ 44 ≤ (o.val : Int) ∧ (o.val : Int) ≤ 46) := by decide +kernel
    have h1 := key ⟨op.toNat, by omega⟩
    have e : ((op.toNat : Nat) : Int) = op := by omega
    simp only [e] at h1
    exact h1
  · have e : kin op = (0, 0, 0) := by
      unfold kin
      repeat rw [if_neg (by omega)]
    rw [e]
    exact ⟨by decide, by decide, fun h => absurd h (by decide), by decide, by decide, fun h => absurd h (by decide)⟩
theorem bnd_same {nc ne nc' ne' k : Int} (h15 : k ≠ 15) (h16 : k ≠ 16) : bnd nc' ne' k = bnd nc ne k := by
  unfold bnd
  simp only [if_neg h15, if_neg h16]
theorem alw_to {nc ne nc' ne' k n : Int} (h : alw nc ne k n = true) (h15 : k = 15 → n < nc') (h16 : k = 16 → n < ne') : alw nc' ne' k n = true := by
  by_cases e : k = 15
  · subst e
    have hb : 0 ≤ n ∧ n ≤ nc - 1 := alw_b h
    have h3 := h15 rfl
    unfold alw bnd
    simp
    omega
  by_cases e2 : k = 16
  · subst e2
    have hb : 0 ≤ n ∧ n ≤ ne - 1 := alw_b h
    have h3 := h16 rfl
    unfold alw bnd
    simp
    omega
  unfold alw at h ⊢
  rw [bnd_same (nc := nc) (ne := ne) e e2]
  exact h
theorem frmX_to {enc : Bool} {nc ne nc' ne' : Int} {x : In} (h : frmX enc nc ne x = true) (hb : tgP x.op = true → x.b < nc') (hc : x.op = 16 ∨ x.op = 17 ∨ 44 ≤ x.op ∧ x.op ≤ 46 → x.c < ne') : frmX enc nc' ne' x = true := by
  obtain ⟨k1, k2, k3, k4, k5, k6⟩ := kin_15 x.op
  unfold frmX at h ⊢
  simp only [Bool.and_eq_true] at h ⊢
  exact ⟨h.1, alw_to h.2.1 (fun e => absurd e k1) (fun e => absurd e k2), alw_to h.2.2.1 (fun e => hb (k3 e)) (fun e => absurd e k4), alw_to h.2.2.2 (fun e => absurd e k5) (fun e => hc (k6 e))⟩
theorem frmX_up {enc : Bool} {nc ne nc' : Int} {x : In} (h : frmX enc nc ne x = true) (hn : nc ≤ nc') : frmX enc nc' ne x = true := by
  unfold frmX at h ⊢
  simp only [Bool.and_eq_true] at h ⊢
  have up : ∀ {k n : Int}, alw nc ne k n = true → alw nc' ne k n = true := fun {k n} h => by
    refine alw_to h (fun e => ?_) (fun e => ?_)
    · subst e
      have hb : 0 ≤ n ∧ n ≤ nc - 1 := alw_b h
      omega
    · subst e
      have hb : 0 ≤ n ∧ n ≤ ne - 1 := alw_b h
      omega
  exact ⟨h.1, up h.2.1, up h.2.2.1, up h.2.2.2⟩
theorem agr_to3 {x : In} {R R' : List In} (h8 : x.op ≠ 8) (h41 : x.op ≠ 41) (h : agr x R = true) : agr x R' = true := by
  have hn : ¬ (x.op = 8 ∨ x.op = 41) := by omega
  unfold agr at h ⊢
  rw [if_neg hn] at h ⊢
  exact h
theorem arms_if3 {R : List In} {m : Int} : arms R m = true ↔ m ≤ R.length ∧ ∀ i, i < m.toNat → armOk R i = true := by
  unfold arms
  rw [Bool.and_eq_true, decide_eq_true_eq, List.all_eq_true]
  exact ⟨fun h => ⟨h.1, fun i hi => h.2 i (List.mem_range.2 hi)⟩, fun h => ⟨h.1, fun i hi => h.2 i (List.mem_range.1 hi)⟩⟩
theorem armOk_to {R R' : List In} {i : Nat} (h : ∀ j, j ≤ i → R'[j]? = R[j]?) (h1 : armOk R i = true) : armOk R' i = true := by
  have ht : R'.take i = R.take i := List.ext_getElem? fun j => by
    rw [List.getElem?_take, List.getElem?_take]
    split
    · exact h j (by omega)
    · rfl
  unfold armOk at h1 ⊢
  rw [h i (Nat.le_refl i), ht]
  exact h1
theorem armOk_op {R : List In} {i : Nat} (h : armOk R i = true) : ∃ x, R[i]? = some x ∧ x.op = 9 := by
  unfold armOk at h
  cases hx : R[i]? with
  | none => rw [hx] at h; cases h
  | some x =>
    rw [hx] at h
    simp only [Bool.and_eq_true, beq_iff_eq] at h
    exact ⟨x, rfl, h.1⟩
theorem Chk.armA {enc : Bool} {C : List In} {E : List Int} (h : Chk enc C E) {k : Nat} (hk : k < C.length) (ho : (inA C k).op = 8 ∨ (inA C k).op = 41) : (inA C k).a ≤ ((C.drop (k + 1)).length : Int) ∧ ∀ i, i < (inA C k).a.toNat → armOk (C.drop (k + 1)) i = true ∧ k + 1 + i < C.length ∧ (inA C (k + 1 + i)).op = 9 := by
  obtain ⟨-, h2⟩ := frm_inA hk (h.code k hk)
  unfold agr at h2
  rw [if_neg (by omega), if_neg (by omega), if_neg (by omega), if_pos ho] at h2
  obtain ⟨a1, a2⟩ := arms_if3.1 h2
  refine ⟨a1, fun i hi => ⟨a2 i hi, ?_⟩⟩
  obtain ⟨x, hx, hox⟩ := armOk_op (a2 i hi)
  rw [List.getElem?_drop] at hx
  refine ⟨(List.getElem?_eq_some_iff.1 hx).1, ?_⟩
  rw [inA_at hx]
  exact hox
theorem frm_of {enc : Bool} {C : List In} {ne k : Nat} (hk : k < C.length) (h1 : frmX enc C.length ne (inA C k) = true) (h2 : agr (inA C k) (C.drop (k + 1)) = true) : frm enc C ne k = true := by
  have hx : C[k]? = some (C[k]) := List.getElem?_eq_getElem hk
  rw [inA_at hx] at h1 h2
  unfold frm
  rw [hx]
  simp only [Bool.and_eq_true]
  exact ⟨h1, h2⟩
theorem inA_app {D T : List In} {k : Nat} (h : k < D.length) : inA (D ++ T) k = inA D k := by
  unfold inA
  simp only [List.getD, List.getElem?_append_left h]
theorem at_inA {C : List In} {k : Nat} (h : k < C.length) : C[k]? = some (inA C k) := by
  unfold inA
  simp [List.getD, h]
/-- What SoundDead puts behind. -/
def tl3 : List In := [⟨20, 0, 0, 0⟩, ⟨19, 0, 0, 0⟩, ⟨20, 0, 0, 0⟩]
/-- Some that have no state were written over, by such as have their form. -/
structure Sw (enc : Bool) (C : List In) (L : List Int) (ne : Nat) (D : List In) : Prop where
  len : D.length = C.length
  ok : ∀ k, k < C.length → inA D k = inA C k ∨ (hAt L k = -1 ∧ (inA C k).op ≠ 9 ∧ (inA D k).op ≠ 8 ∧ (inA D k).op ≠ 41 ∧ frmX enc C.length ne (inA D k) = true ∧ agr (inA D k) [] = true)
theorem Sw.refl (enc : Bool) (C : List In) (L : List Int) (ne : Nat) : Sw enc C L ne C := ⟨rfl, fun k _ => .inl rfl⟩
/-- One more is written over. -/
theorem Sw.put {enc : Bool} {C D Q : List In} {L : List Int} {ne nq k : Nat} (h : Sw enc C L ne D) (hk : k < C.length) (hq : k < Q.length) (hf : frm enc Q nq k = true) (hL : hAt L k = -1) (h9 : (inA C k).op ≠ 9) (h8 : (inA Q k).op ≠ 8) (h41 : (inA Q k).op ≠ 41) (hb : tgP (inA Q k).op = true → (inA Q k).b < (C.length : Int)) (hc : (inA Q k).op = 16 ∨ (inA Q k).op = 17 ∨ 44 ≤ (inA Q k).op ∧ (inA Q k).op ≤ 46 → (inA Q k).c < (ne : Int)) : Sw enc C L ne (D.set k (inA Q k)) := by
  refine ⟨by rw [List.length_set]; exact h.len, fun j hj => ?_⟩
  by_cases e : j = k
  · subst e
    have e1 : inA (D.set j (inA Q j)) j = inA Q j := inA_at (by rw [List.getElem?_set, if_pos rfl, if_pos (by rw [h.len]; exact hj)])
    obtain ⟨f1, f2⟩ := frm_inA hq hf
    rw [e1]
    exact .inr ⟨hL, h9, h8, h41, frmX_to f1 hb hc, agr_to3 h8 h41 f2⟩
  · have e1 : inA (D.set k (inA Q k)) j = inA D j := by
      unfold inA
      have : k ≠ j := fun x => e x.symm
      simp [List.getD, List.getElem?_set, this]
    rw [e1]
    exact h.ok j hj
theorem Sw.arm {enc : Bool} {C D : List In} {L : List Int} {ne k : Nat} (h : Sw enc C L ne D) (hk : k < C.length) (h9 : (inA C k).op = 9) : inA D k = inA C k := by
  rcases h.ok k hk with h1 | h1
  · exact h1
  · exact absurd h9 h1.2.1
theorem Sw.chk {enc : Bool} {C D : List In} {L : List Int} {E : List Int} (hK : Chk enc C E) (h : Sw enc C L E.length D) (hn : C.length + 3 ≤ 1048576) : Chk enc (D ++ tl3) E := by
  have hl : (D ++ tl3).length = C.length + 3 := by rw [List.length_append, h.len]; rfl
  refine ⟨by rw [hl]; exact hn, hK.ne, fun i hi => ?_, fun i hi => ?_⟩
  · rw [hl] at hi
    by_cases hin : i < C.length
    · have hA : inA (D ++ tl3) i = inA D i := inA_app (by rw [h.len]; exact hin)
      refine frm_of (by rw [hl]; exact hi) ?_ ?_
      · rw [hA, hl]
        rcases h.ok i hin with h1 | h1
        · rw [h1]
          exact frmX_up (frm_inA hin (hK.code i hin)).1 (by omega)
        · exact frmX_up h1.2.2.2.2.1 (by omega)
      · rw [hA]
        rcases h.ok i hin with h1 | h1
        · rw [h1]
          obtain ⟨-, h2⟩ := frm_inA hin (hK.code i hin)
          by_cases ho : (inA C i).op = 8 ∨ (inA C i).op = 41
          · obtain ⟨b1, b2⟩ := hK.armA hin ho
            unfold agr
            rw [if_neg (by omega), if_neg (by omega), if_neg (by omega), if_pos ho]
            refine arms_if3.2 ⟨?_, fun j hj => ?_⟩
            · rw [List.length_drop] at b1 ⊢
              omega
            · refine armOk_to (fun q hq => ?_) (b2 j hj).1
              obtain ⟨-, c2, c3⟩ := b2 q (by omega)
              rw [List.getElem?_drop, List.getElem?_drop, List.getElem?_append_left (by rw [h.len]; exact c2), at_inA c2, at_inA (by rw [h.len]; exact c2), h.arm c2 c3]
          · exact agr_to3 (by omega) (by omega) h2
        · exact agr_to3 h1.2.2.1 h1.2.2.2.1 h1.2.2.2.2.2
    · have hq : inA (D ++ tl3) i = ⟨20, 0, 0, 0⟩ ∨ inA (D ++ tl3) i = ⟨19, 0, 0, 0⟩ := by
        have e : (D ++ tl3)[i]? = tl3[i - C.length]? := by rw [List.getElem?_append_right (by rw [h.len]; omega), h.len]
        have h3 : i - C.length = 0 ∨ i - C.length = 1 ∨ i - C.length = 2 := by omega
        rcases h3 with h3 | h3 | h3 <;> rw [h3] at e
        · exact .inl (inA_at e)
        · exact .inr (inA_at e)
        · exact .inl (inA_at e)
      refine frm_of (by rw [hl]; exact hi) ?_ ?_
      · rcases hq with hq | hq <;> rw [hq, hl]
        · unfold frmX isOf alw kin bnd
          simp
        · unfold frmX isOf alw kin bnd
          simp
          omega
      · rcases hq with hq | hq <;> (rw [hq]; unfold agr; simp)
  · have := hK.ent i hi
    rw [hl]
    omega
theorem Sw.agr {enc : Bool} {C D : List In} {E : List Int} (hK : Chk enc C E) (h1 : (firstP enc C E 0 (List.replicate C.length st0)).1 = 1048576) (h : Sw enc C (shP enc C E) E.length D) : Agr C (D ++ tl3) (stP enc C E) := by
  obtain ⟨a1, a2, a3, a4⟩ := firstP_all hK h1
  intro k hk hp
  have hs : hAt (shP enc C E) k ≠ -1 := by
    rw [shP_at (by rw [a2]; exact hk)]
    exact shp_came (a1 k) hp
  have hA : inA (D ++ tl3) k = inA C k := by
    rw [inA_app (by rw [h.len]; exact hk)]
    rcases h.ok k hk with h2 | h2
    · exact h2
    · exact absurd h2.1 hs
  refine ⟨hA, ?_⟩
  by_cases ho : (inA C k).op = 8 ∨ (inA C k).op = 41
  · obtain ⟨b1, b2⟩ := hK.armA hk ho
    unfold waysP
    rw [hA, if_neg (by omega), if_neg (by omega), if_pos ho, if_neg (by omega), if_neg (by omega), if_pos ho]
    refine List.map_congr_left (fun i hi => ?_)
    obtain ⟨-, c2, c3⟩ := b2 i (List.mem_range.1 hi)
    rw [inA_app (by rw [h.len]; exact c2), h.arm c2 c3]
  · unfold waysP
    rw [hA, if_neg ho, if_neg ho]
/-- What SoundDead asks. -/
theorem dead_ok {enc : Bool} {C D : List In} {E : List Int} (hK : Chk enc C E) (hv : (vfP enc C E).1 = 0) (h : Sw enc C (shP enc C E) E.length D) (hn : C.length + 3 ≤ 1048576) : Chk enc (D ++ tl3) E ∧ vfP enc (D ++ tl3) E = (0, 0) ∧ shP enc (D ++ tl3) E = shP enc C E ++ [-1, -1, -1] := by
  have h0 : vfP enc C E = (0, 0) := by
    rcases vf_rng hK with e | e
    · exact e
    · rw [e.1] at hv; cases hv
  have hc := h.chk hK hn
  obtain ⟨d1, d2⟩ := dead_tl (m := 3) hK hc (by rw [List.length_append, h.len]; rfl) h0 (h.agr hK (vf_first hK hv))
  refine ⟨hc, d1, ?_⟩
  unfold shP
  rw [d2, List.map_append]
  have : mShp enc st0 = -1 := shp_not rfl
  simp [List.replicate, this]
end Go.Proofs.Ytnmffeeieclmfaa

/- SoundDead: memory: an instruction of the call's own is written over; three are put behind. -/
namespace Go.Proofs.Ytnmffeeieclmfaa
open Go.RowKit
set_option linter.unusedVariables false
set_option linter.unusedSimpArgs false

/-- An instruction is written where it lies in a list. -/
def putX (w : World) (g o : Nat) (x : In) : World := (((w.setCell ⟨g, o, none⟩ (.int .i64 x.op)).setCell ⟨g, o + 1, none⟩ (.int .i64 x.a)).setCell ⟨g, o + 2, none⟩ (.int .i64 x.b)).setCell ⟨g, o + 3, none⟩ (.int .i64 x.c)
theorem putX_upd {S : Nat → Prop} {a w : World} (h : Upd S a w) (g o : Nat) (x : In) (hg : S g ∨ a.heap.size ≤ g) : Upd S a (putX w g o x) := by
  unfold putX
  exact (((h.set _ _ hg).set _ _ hg).set _ _ hg).set _ _ hg
theorem set4x (L : List Value) (o : Nat) (x : In) (m : Nat) (h : o + 4 ≤ L.length) : ((((L.set o (.int .i64 x.op)).set (o + 1) (.int .i64 x.a)).set (o + 2) (.int .i64 x.b)).set (o + 3) (.int .i64 x.c))[m]? = if o ≤ m ∧ m < o + 4 then (inc x)[m - o]? else L[m]? := by
  by_cases h1 : o ≤ m ∧ m < o + 4
  · rw [if_pos h1]
    obtain ⟨j, rfl⟩ : ∃ j, m = o + j := ⟨m - o, by omega⟩
    rw [Nat.add_sub_cancel_left]
    have hj7 : j = 0 ∨ j = 1 ∨ j = 2 ∨ j = 3 := by omega
    rcases hj7 with rfl | rfl | rfl | rfl
    all_goals
      simp only [List.getElem?_set, List.length_set, inc]
      repeat (first | rw [if_pos trivial] | rw [if_pos (by omega)] | rw [if_neg (by omega)])
      try rfl
  · rw [if_neg h1]
    simp only [List.getElem?_set, List.length_set]
    repeat rw [if_neg (by omega)]
theorem COwn.putX {w : World} {B g n cap i : Nat} {l : List In} (h : COwn w B (.slice (some ⟨g, 0, none⟩) n cap) l) (hi : i < l.length) (x : In) : COwn (Go.Proofs.Ytnmffeeieclmfaa.putX w g (i * 4) x) B (.slice (some ⟨g, 0, none⟩) n cap) (l.set i x) := by
  obtain ⟨g', cap', ys, e, hb, hn, hm, hys, ht, hk⟩ := ownS_blk h (by omega)
  injection e with e1 e2 e3
  injection e1 with e1
  injection e1 with e1 _ _
  subst e1 e2 e3
  have hk2 := (((hk.set (i * 4) (.int .i64 x.op)).set (i * 4 + 1) (.int .i64 x.a)).set (i * 4 + 2) (.int .i64 x.b)).set (i * 4 + 3) (.int .i64 x.c)
  have h2 := ownS_of_blk (B := B) (n := l.length) (c := 4) (cap := cap) hk2 hb (by simp [hys]) hn hm
  have hl4 : i * 4 + 4 ≤ ys.length := by rw [hys]; omega
  have e4 : ((((ys.set (i * 4) (.int .i64 x.op)).set (i * 4 + 1) (.int .i64 x.a)).set (i * 4 + 2) (.int .i64 x.b)).set (i * 4 + 3) (.int .i64 x.c)).take (l.length * 4) = cellsG inc (l.set i x) := by
    apply List.ext_getElem?
    intro q
    rw [List.getElem?_take, set4x ys (i * 4) x q hl4]
    by_cases hq : q < l.length * 4
    · rw [if_pos hq]
      have hqd : (q / 4) * 4 + q % 4 = q := by omega
      have hx := List.getElem?_eq_getElem (l := l.set i x) (i := q / 4) (by rw [List.length_set]; omega)
      have h3 := cellsG_at inc_len (l.set i x) (q / 4) (q % 4) _ hx (by omega)
      rw [hqd] at h3
      rw [h3]
      by_cases hiq : i * 4 ≤ q ∧ q < i * 4 + 4
      · have e5 : q / 4 = i := by omega
        rw [if_pos hiq]
        have : (l.set i x)[q / 4]'(by rw [List.length_set]; omega) = x := by simp [e5]
        rw [this, show q - i * 4 = q % 4 by omega]
      · rw [if_neg hiq]
        have e5 : i ≠ q / 4 := by omega
        have hx2 := List.getElem?_eq_getElem (l := l) (i := q / 4) (by omega)
        have h4 := cellsG_at inc_len l (q / 4) (q % 4) _ hx2 (by omega)
        rw [hqd] at h4
        have : (l.set i x)[q / 4]'(by rw [List.length_set]; omega) = l[q / 4]'(by omega) := by simp [List.getElem_set, e5]
        rw [this, ← h4, ← ht, List.getElem?_take, if_pos hq]
    · rw [if_neg hq, List.getElem?_eq_none (by rw [cellsG_len inc_len]; simp; omega)]
  unfold COwn
  rw [List.length_set, ← e4]
  exact h2
section
variable {w w' : World} {B n c : Nat} {e : TypeId} {v : Value} {xs : List Value}
theorem run_push3 {P : Program} {t : TypeId} {z : Value} {bytes : Nat} (ht : P.underlying t = some (.slice e)) (hinfo : (P.info? e).map (fun i => (i.zero, i.size, i.bytes)) = some (some z, c, bytes)) (hzs : z.cells.size = c) (hc : 0 < c)
    (w : World) (ty : Nat) (hown : w.ownsRow B e c v n xs) (news : List Value) (hl : news.length = 3 * c) (hx : ∀ u ∈ news, u.oneCell' = true) (h63 : n + 3 ≤ maxLen) (hb : (n + 3) * bytes ≤ 140737488355328) (hbase : B ≤ w.heap.size) :
    ∃ g cap w', (Builtin.append_ #[t, t] ty #[v, .slice (some ⟨w.heap.size, 0, none⟩) 3 3]).run P (w.alloc (.cells news.toArray e)) = .ok (.slice (some ⟨g, 0, none⟩) (n + 3) cap) w' ∧
      w'.ownsRow B e c (.slice (some ⟨g, 0, none⟩) (n + 3) cap) (n + 3) (xs ++ news) ∧ Upd (fun k => v.ownBlock = some k) w w' ∧ (v.ownBlock = some g ∨ w.heap.size ≤ g) := by
  obtain ⟨i0, hi, hz0, hz1, hz2⟩ := info_parts hinfo
  have hsz : (w.alloc (.cells news.toArray e)).heap.size = w.heap.size + 1 := by simp
  obtain ⟨g, cap, w', h1, h2, h3, h4, h5⟩ := run_append_lies (P := P) (w.alloc (.cells news.toArray e)) t ty B e i0 z c bytes ht hi hz0 hz1 hz2 hzs hc v n xs (hown.alloc _) ⟨w.heap.size, 0, none⟩ 3 3 news (by omega)
    (fun j u hj => by rw [add_none, Nat.zero_add, (Blk.new w news e).cell]; exact hj)
    hx (by decide) h63 hb (by omega) _ rfl
  refine ⟨g, cap, w', h1, h2, ((Upd.refl _ w).alloc _).grown h3 (fun k hk => .inl hk), ?_⟩
  rcases h4 with h4 | h4
  · exact .inl h4
  · exact .inr (by omega)
end
theorem COwn.push3 {w : World} {B : Nat} {v : Value} {l : List In} (h : COwn w B v l) (hl : l.length ≤ 1000000000) (hB : B ≤ w.heap.size) :
    ∃ g cap w', (Builtin.append_ #[22, 22] 22 #[v, .slice (some ⟨w.heap.size, 0, none⟩) 3 3]).run Try.prog (w.alloc (.cells #[.int .i64 20, .int .i64 0, .int .i64 0, .int .i64 0, .int .i64 19, .int .i64 0, .int .i64 0, .int .i64 0, .int .i64 20, .int .i64 0, .int .i64 0, .int .i64 0] 36)) = .ok (.slice (some ⟨g, 0, none⟩) (l.length + 3) cap) w' ∧
      COwn w' B (.slice (some ⟨g, 0, none⟩) (l.length + 3) cap) (l ++ tl3) ∧ Upd (fun k => v.ownBlock = some k) w w' ∧ (v.ownBlock = some g ∨ w.heap.size ≤ g) := by
  obtain ⟨g, cap, w', h1, h2, h3, h4⟩ := run_push3 (P := Try.prog) (t := 22) (e := 36) (c := 4) Try.underlying22 infoIn rfl (by decide) w 22 h [.int .i64 20, .int .i64 0, .int .i64 0, .int .i64 0, .int .i64 19, .int .i64 0, .int .i64 0, .int .i64 0, .int .i64 20, .int .i64 0, .int .i64 0, .int .i64 0] rfl (by decide) (by unfold maxLen; omega) (by omega) hB
  refine ⟨g, cap, w', h1, ?_, h3, h4⟩
  unfold COwn
  rw [cellsG_app, List.length_append, show tl3.length = 3 from rfl]
  exact h2
end Go.Proofs.Ytnmffeeieclmfaa

/- SoundDead: the walk. -/
namespace Go.Proofs.Ytnmffeeieclmfaa
open Go.RowKit
set_option linter.unusedVariables false
set_option linter.unusedSimpArgs false

theorem COwn.rowX {w : World} {l : List In} {B n c : Nat} {a : Option Addr} (h : COwn w B (.slice a n c) l) : IRow w a l := by
  obtain ⟨a', c', e, -, -, hr⟩ := h.row
  injection e with e _ _
  subst e
  exact hr
theorem IOwn.rowX {w : World} {l : List Int} {B n c : Nat} {a : Option Addr} (h : IOwn w B (.slice a n c) l) : Row .i64 w a l := by
  obtain ⟨a', c', e, hr, -, -⟩ := h.row
  injection e with e _ _
  subst e
  exact hr
/-- The program while it is written over, from the world W0 on. -/
structure DInv (W0 w : World) (B g cc n : Nat) (en : Bool) (C D : List In) (L : List Int) (ne j : Nat) : Prop where
  upd : Upd (fun k => k = g) W0 w
  own : COwn w B (.slice (some ⟨g, 0, none⟩) n cc) D
  sw : Sw en C L ne D
  same : ∀ k, j ≤ k → k < n → inA D k = inA C k
theorem DInv.later {W0 w w' : World} {B g cc n : Nat} {en : Bool} {C D : List In} {L : List Int} {ne j : Nat} (h : DInv W0 w B g cc n en C D L ne j) (hB : Below w.heap.size w w') : DInv W0 w' B g cc n en C D L ne (j + 1) :=
  ⟨h.upd.trans (Upd.of_below (S := fun k => k = g) hB) (fun k _ h => h), h.own.later hB, h.sw, fun k hk hn => h.same k (by omega) hn⟩
theorem DInv.put {W0 w : World} {B g cc n : Nat} {en : Bool} {C D Q : List In} {L : List Int} {ne nq j i : Nat} (h : DInv W0 w B g cc n en C D L ne j) (hj : j = i + 1) (hn : C.length = n) (hk : i < n) (hq : i < Q.length) (hf : frm en Q nq i = true) (hL : hAt L i = -1) (h9 : (inA C i).op ≠ 9) (h8 : (inA Q i).op ≠ 8) (h41 : (inA Q i).op ≠ 41) (hb : tgP (inA Q i).op = true → (inA Q i).b < (n : Int)) (hc : (inA Q i).op = 16 ∨ (inA Q i).op = 17 ∨ 44 ≤ (inA Q i).op ∧ (inA Q i).op ≤ 46 → (inA Q i).c < (ne : Int)) : DInv W0 (putX w g (i * 4) (inA Q i)) B g cc n en C (D.set i (inA Q i)) L ne j := by
  have hl : D.length = n := by rw [h.sw.len]; exact hn
  refine ⟨putX_upd h.upd _ _ _ (.inl rfl), h.own.putX (by omega) _, h.sw.put (by omega) hq hf hL h9 h8 h41 (by rw [hn]; exact hb) hc, fun k h1 h2 => ?_⟩
  have : inA (D.set i (inA Q i)) k = inA D k := by
    unfold inA
    have : i ≠ k := by omega
    simp [List.getD, List.getElem?_set, this]
  rw [this]
  exact h.same k h1 h2
/-- What Shape answers of the program written over. -/
def DsTo (w : World) (m : Nat) (L : List Int) (e : Ending) (w' : World) : Prop := ∃ g, e = .returned (.tuple #[.slice (some ⟨g, 0, none⟩) m m, .agg #[.int .i64 0, .int .i64 0]]) ∧ Hid (Blk w' g 3 (cellsL .i64 (L ++ [-1, -1, -1]))) ∧ Hid (Below w.heap.size w w')
theorem dead_shape {en : Bool} {C D : List In} {E L : List Int} {n B g2 cap2 ce : Nat} {ae : Option Addr} {w : World} (hK : Chk en C E) (hv : (vfP en C E).1 = 0) (hL : shP en C E = L) (hS : Sw en C L E.length D) (hn : C.length = n) (h9 : n ≤ 100) (hO : COwn w B (.slice (some ⟨g2, 0, none⟩) (n + 3) cap2) (D ++ tl3)) (hE : Row .i64 w ae E) (hce : E.length ≤ ce) : Calls Try.prog 10 #[.agg #[.bool en, .slice (some ⟨g2, 0, none⟩) (n + 3) cap2, .slice ae E.length ce]] w (DsTo w (n + 3) L) := by
  have hl : (D ++ tl3).length = n + 3 := by rw [List.length_append, hS.len, hn]; rfl
  rw [← hL] at hS
  obtain ⟨d1, d2, d3⟩ := dead_ok hK hv hS (by omega)
  obtain ⟨a, c, e1, e2, -, e4⟩ := hO.row
  injection e1 with e1 _ e3
  subst e1 e3
  have hne := hK.ne
  have h := shape_any en (some ⟨g2, 0, none⟩) ae cap2 ce (D ++ tl3) E w e2 hO.capM (by omega) hce (by omega) (hide_ e4) (hide_ hE)
  rw [hl] at h
  refine Calls.mono h ?_
  rintro e w' ⟨h1, ⟨-, -, -, -, g, rfl, -, hb⟩ | ⟨hx, -⟩⟩
  · rw [d3, hL] at hb
    rw [hl]
    exact ⟨g, rfl, hide_ hb, hide_ h1⟩
  · rw [d2] at hx
    exact absurd rfl hx
set_option maxRecDepth 100000 in
set_option maxHeartbeats 16000000 in
theorem sdead_any (en0 en1 : Bool) (a0 b0 a1 b1 : Option Addr) (c0 d0 c1 d1 : Nat) (P0 P1 : List In) (E0 E1 : List Int) (w : World) (hP1 : P0.length ≤ 4398046511104) (hE1 : E0.length ≤ 17592186044415) (hP2 : P1.length ≤ 4398046511104) (n1 : a0 = none → c0 = 0) (m1 : b0 = none → d0 = 0) (n2 : a1 = none → c1 = 0) (r1 : Hid (IRow w a0 P0)) (s1 : Hid (Row .i64 w b0 E0)) (r2 : Hid (IRow w a1 P1)) :
    Calls Try.prog 5 #[.agg #[.bool en0, .slice a0 P0.length c0, .slice b0 E0.length d0], .agg #[.bool en1, .slice a1 P1.length c1, .slice b1 E1.length d1]] w fun e w' => e = .returned (.bool true) ∧ Below w.heap.size w w' := by
  obtain ⟨w0, hw0⟩ : ∃ w0, (w.alloc (.cells #[.bool en0, .slice a0 P0.length c0, .slice b0 E0.length d0] 25)).alloc (.cells #[.bool en1, .slice a1 P1.length c1, .slice b1 E1.length d1] 25) = w0 := ⟨_, rfl⟩
  have hB0 : Below w.heap.size w w0 := by rw [← hw0]; exact below2 _ _ _
  obtain ⟨hK0, hK1⟩ := blk2 w #[.bool en0, .slice a0 P0.length c0, .slice b0 E0.length d0] #[.bool en1, .slice a1 P1.length c1, .slice b1 E1.length d1] 25 25
  rw [hw0] at hK0 hK1
  have HK0 := hide_ hK0
  have HK1 := hide_ hK1
  have HB0 := hide_ hB0
  have HM1 : Hid (∀ w', Below w.heap.size w w' → Calls Try.prog 9 #[.agg #[.bool en0, .slice a0 P0.length c0, .slice b0 E0.length d0]] w' (Md15 en0 w')) := hide_ (fun w' hB => made15_any en0 a0 b0 c0 d0 P0 E0 w' hP1 hE1 n1 m1 (hide_ (r1.out.later hB)) (hide_ (s1.out.later hB)))
  have HM2 : Hid (∀ w', Below w.heap.size w w' → Calls Try.prog 12 #[.agg #[.bool en0, .slice a1 P1.length c1, .slice none 0 0], .int .i64 60] w' (MdQ en0 w')) := hide_ (fun w' hB => by
    exact (rmade_any en0 a1 none c1 0 P1 [] 60 w' (by omega) hP2 (by simp) n2 (fun _ => rfl) (hide_ (r2.out.later hB)) (hide_ (.inl ⟨rfl, rfl⟩))).mono (fun e w2 h => h.q (by omega)))
  clear r1 s1 r2 n1 m1 n2 hB0 hK0 hK1
  go_enter Try.func5, Try.ntmps5
  go_upto_region 1 with fail
  try rw [hw0]
  clear hw0
  go_wp2_with fail
  refine (first15_any w0).mono ?_
  rintro e w1 ⟨rfl, hB1⟩
  have HB1 := hide_ (below_to HB0.out hB1)
  have K1 := HK0.out.later hB1
  have p0 := K1.cell 0; have p1 := K1.cell 1; have p2 := K1.cell 2
  simp at p0 p1 p2
  have HK2 := hide_ (HK1.out.later hB1)
  have HMa := hide_ (HM1.out w1 HB1.out)
  clear hB1 HB0 HK0 HK1 K1 HM1
  go_wp2_with fail
  refine HMa.out.mono ?_
  rintro e w2 hT2
  obtain ⟨C, E, ac, cc, ae, ce, rfl, hCk, hn0, hn1, hCo, hEo, hB2⟩ := hT2
  clear HMa p0 p1 p2
  go_upto_region 4 with fail
  obtain ⟨w3, hw3⟩ : ∃ wx, w2.alloc (.cells #[.bool en0, .slice ac C.length cc, .slice ae E.length ce] 25) = wx := ⟨_, rfl⟩
  have hB3 : Below w2.heap.size w2 w3 := by rw [← hw3]; exact below1 _ _
  have hK3 : Blk w3 w2.heap.size 25 [.bool en0, .slice ac C.length cc, .slice ae E.length ce] := by rw [← hw3]; exact Blk.newA _ _ _
  obtain ⟨qp, hqp⟩ : ∃ qp, w2.heap.size = qp := ⟨_, rfl⟩
  try rw [hw3]
  rw [hqp] at hK3 ⊢
  have HB3 := hide_ (below_to (below_to HB1.out hB2) hB3)
  have HC3 := hide_ (hCo.later hB3)
  have HE3 := hide_ (hEo.later hB3)
  have HK3 := hide_ hK3
  have HCk := hide_ hCk
  have k2 := (((HK2.out.later hB2).later hB3)).cell 1
  have p0 := hK3.cell 0
  simp at k2 p0
  have Hgl : Hid (∀ k, (Value.slice ac C.length cc).ownBlock = some k → k < w3.heap.size) := hide_ (fun k hk => Nat.lt_of_lt_of_le (World.ownsRow.lt hCo k hk).2 hB3.size)
  have hww := HB1.out.size
  have hwp : w.heap.size ≤ qp := by have := hB2.size; omega
  have Hwp := hide_ hwp
  have HMb := hide_ (HM2.out w3 HB3.out)
  clear hwp hw3 hqp hB2 hB3 hK3 hCo hEo hCk HB1 HM2 HK2
  go_wp2_with fail
  refine HMb.out.mono ?_
  rintro e w4 ⟨Q, F, aq, cq, af, cf, rfl, HQ, HB4⟩
  clear HMb k2 p0
  go_upto_region 5 with fail
  obtain ⟨w5, hw5⟩ : ∃ wx, w4.alloc (.cells #[.bool en0, .slice aq Q.length cq, .slice af F.length cf] 25) = wx := ⟨_, rfl⟩
  have hB5 : Below w4.heap.size w4 w5 := by rw [← hw5]; exact below1 _ _
  have hK5 : Blk w5 w4.heap.size 25 [.bool en0, .slice aq Q.length cq, .slice af F.length cf] := by rw [← hw5]; exact Blk.newA _ _ _
  obtain ⟨qq, hqq⟩ : ∃ qq, w4.heap.size = qq := ⟨_, rfl⟩
  try rw [hw5]
  rw [hqq] at hK5 ⊢
  have hB35 := below_to HB4.out hB5
  have HK5 := hide_ (HK3.out.later hB35)
  have HC5 := hide_ (HC3.out.later hB35)
  have HE5 := hide_ (HE3.out.later hB35)
  have HB5 := hide_ (below_to HB3.out hB35)
  have HKq := hide_ hK5
  have HQ5 := hide_ (HQ.out.2.2.2.1.later hB5)
  have hqe : qp < w3.heap.size := HK3.out.lt
  have HQk := hide_ HQ.out.1
  have hnq : Q.length ≤ 100 := HQ.out.2.2.1
  have hq0 : 0 < Q.length := HQ.out.2.1
  obtain ⟨a, c, e1, e2, -, e4⟩ := HC5.out.row
  injection e1 with e1 _ e3
  subst e1 e3
  obtain ⟨a, c, f1, f2, -, f4⟩ := HE5.out.row
  injection f1 with f1 _ f3
  subst f1 f3
  have hel : E.length ≤ 1048576 := HCk.out.ne
  have p0 := HK5.out.cell 0; have p1 := HK5.out.cell 1; have p2 := HK5.out.cell 2
  simp at p0 p1 p2
  have HSh := hide_ (shape_any en0 ac ae cc ce C E w5 e2 HC5.out.capM (by omega) f4 (by omega) (hide_ e4) (hide_ f2))
  have Hf4 := hide_ f4
  clear hw5 hqq hB5 hK5 HQ HB3 HK3 HC3 HE3 hB35 e4 f2 HB4
  go_wp2_with fail
  refine HSh.out.mono ?_
  rintro e w6 ⟨hB6, hT6⟩
  clear HSh p0 p1 p2
  rcases hT6 with ⟨h1, h2, -, hl, gl, rfl, -, hb⟩ | ⟨h1, rfl⟩
  · go_upto_region 6 with fail
    obtain ⟨w7, hw7⟩ : ∃ wx, w6.alloc (.cells #[.int .i64 0, .int .i64 0] 30) = wx := ⟨_, rfl⟩
    have hB7 : Below w6.heap.size w6 w7 := by rw [← hw7]; exact below1 _ _
    have hK7 : Blk w7 w6.heap.size 30 [.int .i64 0, .int .i64 0] := by rw [← hw7]; exact Blk.newA _ _ _
    try rw [hw7]
    clear hw7
    have z0 := hK7.cell 0; have z1 := hK7.cell 1
    simp at z0 z1
    obtain ⟨LL, hLL⟩ : ∃ LL, shP en0 C E = LL := ⟨_, rfl⟩
    have HLL := hide_ hLL
    have Hv := hide_ h1
    rw [hLL] at hb hl
    obtain ⟨n, hn⟩ : ∃ n, C.length = n := ⟨_, rfl⟩
    have Hn := hide_ hn
    obtain ⟨g, cap, ys, eg, gb, gn, gm, -, -, gk⟩ := ownS_blk HC5.out hn0
    injection eg with eg _ ec
    subst eg ec
    obtain ⟨g', capq, zs, eg', gb', gn', gm', -, -, gk'⟩ := ownS_blk HQ5.out hq0
    injection eg' with eg' _ ec'
    subst eg' ec'
    have hB57 := below_to hB6 hB7
    have HB7 := hide_ (below_to HB5.out hB57)
    have hgs : g < w3.heap.size := Hgl.out g rfl
    have hgg : g' ≠ g := by omega
    have hgq : qp ≠ g := fun e => absurd (blk_type (e ▸ HK5.out) gk) (by decide)
    have hgr : qq ≠ g := fun e => absurd (blk_type (e ▸ HKq.out) gk) (by decide)
    have hgl : gl ≠ g := fun e => absurd (blk_type (e ▸ hb) (gk.later hB6)) (by decide)
    have HKx : Hid (∀ W, Upd (fun k => k = g) w7 W → W.cell? ⟨qp, 0, none⟩ = some (.bool en0) ∧ W.cell? ⟨qp, 1, none⟩ = some (.slice (some ⟨g, 0, none⟩) n cc) ∧ W.cell? ⟨qp, 2, none⟩ = some (.slice ae E.length ce) ∧ W.cell? ⟨qq, 1, none⟩ = some (.slice (some ⟨g', 0, none⟩) Q.length cq) ∧ IRow W (some ⟨g', 0, none⟩) Q ∧ IOwn W w1.heap.size (.slice ae E.length ce) E ∧ Blk W gl 3 (cellsL .i64 LL) ∧ Blk W qp 25 [.bool en0, .slice (some ⟨g, 0, none⟩) n cc, .slice ae E.length ce] ∧ ∀ k, k < n → W.cell? ⟨gl, k, none⟩ = some (.int .i64 (hAt LL k))) := hide_ (fun W hu => by
      have kq := (HKq.out.later hB57).upd hu hgr
      have kp := (HK5.out.later hB57).upd hu hgq
      rw [hn] at kp
      have kl := (hb.later hB7).upd hu hgl
      have q1 := kq.cell 1
      have k0 := kp.cell 0; have k1 := kp.cell 1; have k2 := kp.cell 2
      simp at q1 k0 k1 k2
      refine ⟨k0, k1, k2, q1, ?_, ?_, kl, kp, fun k hk => ?_⟩
      · have h : COwn W w3.heap.size (.slice (some ⟨g', 0, none⟩) Q.length cq) Q := ownS_upd (HQ5.out.later hB57) hu (fun k hk e => hgg (by injection hk with hk; exact hk.trans e))
        exact h.rowX
      · have h : IOwn W w1.heap.size (.slice ae E.length ce) E := owns_upd (HE5.out.later hB57) hu (fun k hk e => notI HE5.out gk (by decide) (by rw [← e]; exact hk))
        exact h
      · rw [kl.cell, cellsL_at .i64 LL k (by omega)]
        rfl)
    obtain ⟨k0, k1, -⟩ := HKx.out w7 (Upd.refl _ _)
    have HI0 : Hid (DInv w7 w7 w1.heap.size g cc n en0 C C LL E.length 0) := hide_ ⟨Upd.refl _ _, (by have := HC5.out.later hB57; rw [hn] at this; exact this), Sw.refl _ _ _ _, fun _ _ _ => rfl⟩
    have Hl := hide_ hl
    have Hgq := hide_ hgq
    have Hwg : Hid (w.heap.size ≤ g) := hide_ (by omega)
    have hn9 : n ≤ 100 := by omega
    have hn0' : 0 < n := by omega
    try rw [hn]
    clear h1 h2 hl hb hB6 hB7 hK7 hLL hn hn0 hn1 gk gk' gb gb' gn gn' gm gm' hB57 hgs hgg hgq hgr hgl HK5 HC5 HE5 HKq HQ5 HB5 e2 Hgl
    go_wp2_with fail
    clear k0 k1 z0
    go_loopw [9] (fun x9 wr => ∃ (i : Nat) (D : List In), i ≤ n ∧ x9 = .int .i64 (i : Int) ∧ Hid (DInv w7 wr w1.heap.size g cc n en0 C D LL E.length i)) (fun x9 _ => n - (intOf x9).toNat)
    case atStart => exact ⟨0, C, Nat.zero_le _, rfl, HI0⟩
    case round =>
      obtain ⟨i, D, hi, rfl, HD⟩ := hrel
      generalize wr = wq at *
      obtain ⟨k0, k1, k2, k3, hQr, hEr, hLb, hPb, hLc⟩ := HKx.out wq HD.out.upd
      by_cases hil : i < n
      · have hil' : (i : Int) < (n : Int) := by omega
        by_cases hiq : i < Q.length
        · have hiq' : (i : Int) < (Q.length : Int) := by omega
          obtain ⟨x, hx⟩ : ∃ x, Q[i]? = some x := ⟨_, List.getElem?_eq_getElem hiq⟩
          obtain ⟨i0, i1, i2, i3⟩ := hQr.at hx
          simp only [Nat.zero_add] at i0 i1 i2 i3
          have HxA := hide_ (inA_at hx)
          obtain ⟨wz, hwz⟩ : ∃ wx, wq.alloc (.cells #[.int .i64 x.op, .int .i64 x.a, .int .i64 x.b, .int .i64 x.c] 36) = wx := ⟨_, rfl⟩
          have hBz : Below wq.heap.size wq wz := by rw [← hwz]; exact below1 _ _
          have KX : Blk wz wq.heap.size 36 (inc x) := by rw [← hwz]; exact Blk.newA _ _ _
          obtain ⟨qx, hqx⟩ : ∃ qx, wq.heap.size = qx := ⟨_, rfl⟩
          have HDz := hide_ (HD.out.later hBz)
          go_upto_region 14 with fail
          try rw [hwz]
          try rw [hqx] at KX
          try rw [hqx]
          clear k0 k1 k2 k3 hQr hEr hLb hPb hLc i0 i1 i2 i3
          obtain ⟨j0, j1, j2, j3⟩ := KX.ci
          obtain ⟨k0, k1, k2, k3, hQr, hEr, hLb, hPb, hLc⟩ := HKx.out wz HDz.out.upd
          have cl := hLc i hil
          obtain ⟨v, hvv⟩ : ∃ v, hAt LL i = v := ⟨_, rfl⟩
          rw [hvv] at cl
          have Hvv := hide_ hvv
          have hDl : D.length = n := by rw [HD.out.sw.len]; exact Hn.out
          obtain ⟨y, hy⟩ : ∃ y, D[i]? = some y := ⟨_, List.getElem?_eq_getElem (by omega)⟩
          obtain ⟨y0, y1, y2, y3⟩ := HDz.out.own.rowX.at hy
          simp only [Nat.zero_add] at y0 y1 y2 y3
          have Hys : Hid (y = (inA C i)) := hide_ (by rw [← inA_at hy]; exact HD.out.same i (Nat.le_refl i) hil)
          obtain ⟨d, hd⟩ : ∃ d, tgP x.op = d := ⟨_, rfl⟩
          have Hd := hide_ hd
          clear hx hwz hBz KX hqx hvv hDl hy hd hQr hEr hLb hPb hLc
          by_cases hv1 : v = -1
          · have fv : (v != -1) = false := by simp [hv1]
            by_cases hy9 : y.op = 9
            · have ghy9 : (y.op == 9) = true := by simpa using hy9
              go_wp2_with fail
              go_roundw
              case rel => exact ⟨i + 1, D, by omega, by go_num, HDz⟩
              case measure => simp [intOf]; omega
            · have ghy9 : (y.op == 9) = false := by simpa using hy9
              by_cases hx9 : x.op = 9
              · have ghx9 : (x.op == 9) = true := by simpa using hx9
                go_wp2_with fail
                go_roundw
                case rel => exact ⟨i + 1, D, by omega, by go_num, HDz⟩
                case measure => simp [intOf]; omega
              · have ghx9 : (x.op == 9) = false := by simpa using hx9
                by_cases hx8 : x.op = 8
                · have ghx8 : (x.op == 8) = true := by simpa using hx8
                  go_wp2_with fail
                  go_roundw
                  case rel => exact ⟨i + 1, D, by omega, by go_num, HDz⟩
                  case measure => simp [intOf]; omega
                · have ghx8 : (x.op == 8) = false := by simpa using hx8
                  by_cases hx41 : x.op = 41
                  · have ghx41 : (x.op == 41) = true := by simpa using hx41
                    go_wp2_with fail
                    go_roundw
                    case rel => exact ⟨i + 1, D, by omega, by go_num, HDz⟩
                    case measure => simp [intOf]; omega
                  · have ghx41 : (x.op == 41) = false := by simpa using hx41
                    have HTg := hide_ (targets_any x.op wz)
                    rw [Hd.out] at HTg
                    go_wp2_with fail
                    refine HTg.out.mono ?_
                    rintro e wz' ⟨rfl, rfl⟩
                    clear HTg
                    cases d
                    · skip
                      by_cases hxc : (E.length : Int) ≤ x.c
                      · skip
                        by_cases h16 : x.op = 16
                        · have g16 : (x.op == 16) = true := by simpa using h16
                          go_wp2_with fail
                          go_roundw
                          case rel => exact ⟨i + 1, D, by omega, by go_num, HDz⟩
                          case measure => simp [intOf]; omega
                        · have g16 : (x.op == 16) = false := by simpa using h16
                          by_cases h17 : x.op = 17
                          · have g17 : (x.op == 17) = true := by simpa using h17
                            go_wp2_with fail
                            go_roundw
                            case rel => exact ⟨i + 1, D, by omega, by go_num, HDz⟩
                            case measure => simp [intOf]; omega
                          · have g17 : (x.op == 17) = false := by simpa using h17
                            by_cases h44 : 44 ≤ x.op
                            · skip
                              by_cases h46 : x.op ≤ 46
                              · skip
                                go_wp2_with fail
                                go_roundw
                                case rel => exact ⟨i + 1, D, by omega, by go_num, HDz⟩
                                case measure => simp [intOf]; omega
                              · skip
                                obtain ⟨tg, htg⟩ := ownS_type HDz.out.own (k := g) rfl
                                have zf := fun q => htg.frozen q
                                clear htg
                                have HDw : Hid (DInv w7 (putX wz g (i * 4) x) w1.heap.size g cc n en0 C (D.set i x) LL E.length (i + 1)) := hide_ (by
                                  have h := DInv.put (Q := Q) (nq := F.length) HDz.out rfl Hn.out hil hiq (HQk.out.code i hiq) (by rw [Hvv.out]; exact hv1) (by rw [← Hys.out]; exact hy9) (by rw [HxA.out]; exact hx8) (by rw [HxA.out]; exact hx41) (by rw [HxA.out, Hd.out]; exact (fun h => by cases h)) (by rw [HxA.out]; exact (fun h => by omega))
                                  rw [HxA.out] at h
                                  exact h)
                                go_wp2_with fail
                                go_roundw
                                case rel => exact ⟨i + 1, D.set i x, by omega, by go_num, HDw⟩
                                case measure => simp [intOf]; omega
                            · skip
                              obtain ⟨tg, htg⟩ := ownS_type HDz.out.own (k := g) rfl
                              have zf := fun q => htg.frozen q
                              clear htg
                              have HDw : Hid (DInv w7 (putX wz g (i * 4) x) w1.heap.size g cc n en0 C (D.set i x) LL E.length (i + 1)) := hide_ (by
                                have h := DInv.put (Q := Q) (nq := F.length) HDz.out rfl Hn.out hil hiq (HQk.out.code i hiq) (by rw [Hvv.out]; exact hv1) (by rw [← Hys.out]; exact hy9) (by rw [HxA.out]; exact hx8) (by rw [HxA.out]; exact hx41) (by rw [HxA.out, Hd.out]; exact (fun h => by cases h)) (by rw [HxA.out]; exact (fun h => by omega))
                                rw [HxA.out] at h
                                exact h)
                              go_wp2_with fail
                              go_roundw
                              case rel => exact ⟨i + 1, D.set i x, by omega, by go_num, HDw⟩
                              case measure => simp [intOf]; omega
                      · skip
                        obtain ⟨tg, htg⟩ := ownS_type HDz.out.own (k := g) rfl
                        have zf := fun q => htg.frozen q
                        clear htg
                        have HDw : Hid (DInv w7 (putX wz g (i * 4) x) w1.heap.size g cc n en0 C (D.set i x) LL E.length (i + 1)) := hide_ (by
                          have h := DInv.put (Q := Q) (nq := F.length) HDz.out rfl Hn.out hil hiq (HQk.out.code i hiq) (by rw [Hvv.out]; exact hv1) (by rw [← Hys.out]; exact hy9) (by rw [HxA.out]; exact hx8) (by rw [HxA.out]; exact hx41) (by rw [HxA.out, Hd.out]; exact (fun h => by cases h)) (by rw [HxA.out]; exact (fun _ => by omega))
                          rw [HxA.out] at h
                          exact h)
                        go_wp2_with fail
                        go_roundw
                        case rel => exact ⟨i + 1, D.set i x, by omega, by go_num, HDw⟩
                        case measure => simp [intOf]; omega
                    · skip
                      by_cases hxb : (n : Int) ≤ x.b
                      · skip
                        go_wp2_with fail
                        go_roundw
                        case rel => exact ⟨i + 1, D, by omega, by go_num, HDz⟩
                        case measure => simp [intOf]; omega
                      · skip
                        by_cases hxc : (E.length : Int) ≤ x.c
                        · skip
                          by_cases h16 : x.op = 16
                          · have g16 : (x.op == 16) = true := by simpa using h16
                            go_wp2_with fail
                            go_roundw
                            case rel => exact ⟨i + 1, D, by omega, by go_num, HDz⟩
                            case measure => simp [intOf]; omega
                          · have g16 : (x.op == 16) = false := by simpa using h16
                            by_cases h17 : x.op = 17
                            · have g17 : (x.op == 17) = true := by simpa using h17
                              go_wp2_with fail
                              go_roundw
                              case rel => exact ⟨i + 1, D, by omega, by go_num, HDz⟩
                              case measure => simp [intOf]; omega
                            · have g17 : (x.op == 17) = false := by simpa using h17
                              by_cases h44 : 44 ≤ x.op
                              · skip
                                by_cases h46 : x.op ≤ 46
                                · skip
                                  go_wp2_with fail
                                  go_roundw
                                  case rel => exact ⟨i + 1, D, by omega, by go_num, HDz⟩
                                  case measure => simp [intOf]; omega
                                · skip
                                  obtain ⟨tg, htg⟩ := ownS_type HDz.out.own (k := g) rfl
                                  have zf := fun q => htg.frozen q
                                  clear htg
                                  have HDw : Hid (DInv w7 (putX wz g (i * 4) x) w1.heap.size g cc n en0 C (D.set i x) LL E.length (i + 1)) := hide_ (by
                                    have h := DInv.put (Q := Q) (nq := F.length) HDz.out rfl Hn.out hil hiq (HQk.out.code i hiq) (by rw [Hvv.out]; exact hv1) (by rw [← Hys.out]; exact hy9) (by rw [HxA.out]; exact hx8) (by rw [HxA.out]; exact hx41) (by rw [HxA.out, Hd.out]; exact (fun _ => by omega)) (by rw [HxA.out]; exact (fun h => by omega))
                                    rw [HxA.out] at h
                                    exact h)
                                  go_wp2_with fail
                                  go_roundw
                                  case rel => exact ⟨i + 1, D.set i x, by omega, by go_num, HDw⟩
                                  case measure => simp [intOf]; omega
                              · skip
                                obtain ⟨tg, htg⟩ := ownS_type HDz.out.own (k := g) rfl
                                have zf := fun q => htg.frozen q
                                clear htg
                                have HDw : Hid (DInv w7 (putX wz g (i * 4) x) w1.heap.size g cc n en0 C (D.set i x) LL E.length (i + 1)) := hide_ (by
                                  have h := DInv.put (Q := Q) (nq := F.length) HDz.out rfl Hn.out hil hiq (HQk.out.code i hiq) (by rw [Hvv.out]; exact hv1) (by rw [← Hys.out]; exact hy9) (by rw [HxA.out]; exact hx8) (by rw [HxA.out]; exact hx41) (by rw [HxA.out, Hd.out]; exact (fun _ => by omega)) (by rw [HxA.out]; exact (fun h => by omega))
                                  rw [HxA.out] at h
                                  exact h)
                                go_wp2_with fail
                                go_roundw
                                case rel => exact ⟨i + 1, D.set i x, by omega, by go_num, HDw⟩
                                case measure => simp [intOf]; omega
                        · skip
                          obtain ⟨tg, htg⟩ := ownS_type HDz.out.own (k := g) rfl
                          have zf := fun q => htg.frozen q
                          clear htg
                          have HDw : Hid (DInv w7 (putX wz g (i * 4) x) w1.heap.size g cc n en0 C (D.set i x) LL E.length (i + 1)) := hide_ (by
                            have h := DInv.put (Q := Q) (nq := F.length) HDz.out rfl Hn.out hil hiq (HQk.out.code i hiq) (by rw [Hvv.out]; exact hv1) (by rw [← Hys.out]; exact hy9) (by rw [HxA.out]; exact hx8) (by rw [HxA.out]; exact hx41) (by rw [HxA.out, Hd.out]; exact (fun _ => by omega)) (by rw [HxA.out]; exact (fun _ => by omega))
                            rw [HxA.out] at h
                            exact h)
                          go_wp2_with fail
                          go_roundw
                          case rel => exact ⟨i + 1, D.set i x, by omega, by go_num, HDw⟩
                          case measure => simp [intOf]; omega
          · have fv : (v != -1) = true := by simpa using hv1
            go_wp2_with fail
            go_roundw
            case rel => exact ⟨i + 1, D, by omega, by go_num, HDz⟩
            case measure => simp [intOf]; omega
        · have hiq' : ¬ ((i : Int) < (Q.length : Int)) := by omega
          have hDl : D.length = n := by rw [HD.out.sw.len]; exact Hn.out
          have hBw := World.ownsRow.lt HD.out.own g rfl
          obtain ⟨g2, cap2, w8, hrun, hO, hU, hgn⟩ := HD.out.own.push3 (by omega) (by omega)
          rw [hDl] at hrun hO
          obtain ⟨m3, hm3⟩ : ∃ m3, n + 3 = m3 := ⟨_, rfl⟩
          have kp8 := hPb.upd hU (fun e => Hgq.out (by injection e with e; exact e.symm))
          obtain ⟨ti, hti⟩ := ownS_type HD.out.own (k := g) rfl
          have hE8 : IOwn w8 w1.heap.size (.slice ae E.length ce) E := owns_upd hEr hU (fun k hk e => notIC hEr HD.out.own k hk e)
          have hL8 := hLb.upd hU (fun e => by
            injection e with e
            have e : g = gl := e
            rw [e] at hti
            exact absurd (blk_type hti hLb) (by decide))
          obtain ⟨w9, hw9⟩ : ∃ wx, w8.setCell ⟨qp, 1, none⟩ (.slice (some ⟨g2, 0, none⟩) (n + 3) cap2) = wx := ⟨_, rfl⟩
          have hu9 : Upd (fun k => k = qp) w8 w9 := by rw [← hw9]; exact (Upd.refl _ w8).set _ _ (.inl rfl)
          have zq := kp8.frozen 1
          have zc := kp8.cell 1
          simp at zc
          have kp9 := kp8.set 1 (.slice (some ⟨g2, 0, none⟩) (n + 3) cap2)
          rw [hw9] at kp9
          have hO9 : COwn w9 w1.heap.size (.slice (some ⟨g2, 0, none⟩) (n + 3) cap2) (D ++ tl3) := ownS_upd hO hu9 (fun k hk e => notC hO kp8 (by decide) (e ▸ hk))
          have hE9 : IOwn w9 w1.heap.size (.slice ae E.length ce) E := owns_upd hE8 hu9 (fun k hk e => notI hE8 kp8 (by decide) (e ▸ hk))
          have HL9 := hide_ (hL8.upd hu9 (fun e => absurd (blk_type (e ▸ hL8) kp8) (by decide)))
          have HSh := hide_ (dead_shape HCk.out Hv.out HLL.out HD.out.sw Hn.out hn9 hO9 hE9.rowX Hf4.out)
          have HB9 := hide_ (below_to2 (below_to2 (below_to2 HB7.out HD.out.upd (fun q e => by rw [e]; exact Hwg.out)) hU (fun q e => by injection e with e; rw [← e]; exact Hwg.out)) hu9 (fun q e => by rw [e]; exact Hwp.out))
          have e0 := kp9.cell 0; have e1 := kp9.cell 1; have e2 := kp9.cell 2
          simp at e0 e1 e2
          rw [hm3] at hrun hw9 e1
          have HR := hide_ hrun
          have HE := hide_ (And.intro e0 (And.intro e1 e2))
          have Hw9 := hide_ hw9
          rw [hm3] at HSh
          clear hrun hO hU hgn kp8 hti hE8 hL8 hu9 kp9 hO9 hE9 e0 e1 e2 hw9 hPb hQr hEr hLb hLc hDl hBw
          go_upto_region 17 with (first
            | (at_builtin; have _t := HR; refine wpList_append_run rfl (.tmp 139) (.tmp 143) 22 22 rfl rfl rfl HR.out ?_; clear HR k1))
          rw [Hw9.out]
          obtain ⟨e0, e1, e2⟩ := HE.out
          clear HE Hw9 k0 k2 k3 zq zc
          go_wp2_with fail
          refine HSh.out.mono ?_
          rintro e w10 ⟨g3, rfl, HG3, HB10⟩
          clear HSh e0 e1 e2
          go_upto_region 18 with fail
          obtain ⟨w11, hw11⟩ : ∃ wx, w10.alloc (.cells #[.int .i64 0, .int .i64 0] 30) = wx := ⟨_, rfl⟩
          have hB11 : Below w10.heap.size w10 w11 := by rw [← hw11]; exact below1 _ _
          have hK11 : Blk w11 w10.heap.size 30 [.int .i64 0, .int .i64 0] := by rw [← hw11]; exact Blk.newA _ _ _
          try rw [hw11]
          clear hw11
          have z0 := hK11.cell 0; have z2 := hK11.cell 1
          simp at z0 z2
          have HB11 := hide_ (below_to HB9.out (below_to HB10.out hB11))
          have HG11 := hide_ (HG3.out.later hB11)
          have HL11 := hide_ ((HL9.out.later HB10.out).later hB11)
          have HIn : Hid (Calls Try.prog 11 #[.slice (some ⟨g3, 0, none⟩) n m3, .slice (some ⟨gl, 0, none⟩) n n] w11 fun e w' => e = .returned (.bool true) ∧ Below w11.heap.size w11 w') := hide_ (by
            have h := ints_any (some ⟨g3, 0, none⟩) (some ⟨gl, 0, none⟩) m3 n LL LL w11 (by have := Hl.out; have := Hn.out; omega) (by have := Hl.out; have := Hn.out; omega) (hide_ (by
              have h := (HG11.out.row).take LL.length
              rw [List.take_left] at h
              exact h)) (hide_ HL11.out.row)
            rw [Hl.out, Hn.out, decide_eq_true (rfl : LL = LL)] at h
            exact h)
          obtain ⟨m1, hm1⟩ : ∃ m1, n + 1 = m1 := ⟨_, rfl⟩
          obtain ⟨m2, hm2⟩ : ∃ m2, n + 2 = m2 := ⟨_, rfl⟩
          have i1 : (n : Int) + 1 = (m1 : Int) := by omega
          have i2 : (n : Int) + 2 = (m2 : Int) := by omega
          have i3 : (n : Int) + 3 = (m3 : Int) := by omega
          have j0 : (n : Int) < (m3 : Int) := by omega
          have j1 : (m1 : Int) < (m3 : Int) := by omega
          have j2 : (m2 : Int) < (m3 : Int) := by omega
          have HCl : Hid (∀ W, Below w11.heap.size w11 W → W.cell? ⟨g3, n, none⟩ = some (.int .i64 (-1)) ∧ W.cell? ⟨g3, m1, none⟩ = some (.int .i64 (-1)) ∧ W.cell? ⟨g3, m2, none⟩ = some (.int .i64 (-1))) := hide_ (fun W hB => by
            have hk := HG11.out.later hB
            have hln : LL.length = n := by rw [Hl.out]; exact Hn.out
            have c : ∀ q, q < 3 → W.cell? ⟨g3, n + q, none⟩ = some (.int .i64 (-1)) := fun q hq => by
              rw [hk.cell, cellsL_append, List.getElem?_append_right (by rw [cellsL_length]; omega), cellsL_length, hln, Nat.add_sub_cancel_left]
              have : q = 0 ∨ q = 1 ∨ q = 2 := by omega
              rcases this with rfl | rfl | rfl <;> rfl
            exact ⟨c 0 (by omega), by rw [← hm1]; exact c 1 (by omega), by rw [← hm2]; exact c 2 (by omega)⟩)
          clear hm1 hm2 hm3 hK11 hB11
          go_wp2_with fail
          refine HIn.out.mono ?_
          rintro e w12 ⟨rfl, hB12⟩
          obtain ⟨c0, c1, c2⟩ := HCl.out w12 hB12
          have HX := hide_ (below_to HB11.out hB12)
          clear hB12 HIn HCl
          go_wp2_with fail
          go_ret
          exact ⟨rfl, HX.out⟩
      · have hil' : ¬ ((i : Int) < (n : Int)) := by omega
        have hDl : D.length = n := by rw [HD.out.sw.len]; exact Hn.out
        have hBw := World.ownsRow.lt HD.out.own g rfl
        obtain ⟨g2, cap2, w8, hrun, hO, hU, hgn⟩ := HD.out.own.push3 (by omega) (by omega)
        rw [hDl] at hrun hO
        obtain ⟨m3, hm3⟩ : ∃ m3, n + 3 = m3 := ⟨_, rfl⟩
        have kp8 := hPb.upd hU (fun e => Hgq.out (by injection e with e; exact e.symm))
        obtain ⟨ti, hti⟩ := ownS_type HD.out.own (k := g) rfl
        have hE8 : IOwn w8 w1.heap.size (.slice ae E.length ce) E := owns_upd hEr hU (fun k hk e => notIC hEr HD.out.own k hk e)
        have hL8 := hLb.upd hU (fun e => by
          injection e with e
          have e : g = gl := e
          rw [e] at hti
          exact absurd (blk_type hti hLb) (by decide))
        obtain ⟨w9, hw9⟩ : ∃ wx, w8.setCell ⟨qp, 1, none⟩ (.slice (some ⟨g2, 0, none⟩) (n + 3) cap2) = wx := ⟨_, rfl⟩
        have hu9 : Upd (fun k => k = qp) w8 w9 := by rw [← hw9]; exact (Upd.refl _ w8).set _ _ (.inl rfl)
        have zq := kp8.frozen 1
        have zc := kp8.cell 1
        simp at zc
        have kp9 := kp8.set 1 (.slice (some ⟨g2, 0, none⟩) (n + 3) cap2)
        rw [hw9] at kp9
        have hO9 : COwn w9 w1.heap.size (.slice (some ⟨g2, 0, none⟩) (n + 3) cap2) (D ++ tl3) := ownS_upd hO hu9 (fun k hk e => notC hO kp8 (by decide) (e ▸ hk))
        have hE9 : IOwn w9 w1.heap.size (.slice ae E.length ce) E := owns_upd hE8 hu9 (fun k hk e => notI hE8 kp8 (by decide) (e ▸ hk))
        have HL9 := hide_ (hL8.upd hu9 (fun e => absurd (blk_type (e ▸ hL8) kp8) (by decide)))
        have HSh := hide_ (dead_shape HCk.out Hv.out HLL.out HD.out.sw Hn.out hn9 hO9 hE9.rowX Hf4.out)
        have HB9 := hide_ (below_to2 (below_to2 (below_to2 HB7.out HD.out.upd (fun q e => by rw [e]; exact Hwg.out)) hU (fun q e => by injection e with e; rw [← e]; exact Hwg.out)) hu9 (fun q e => by rw [e]; exact Hwp.out))
        have e0 := kp9.cell 0; have e1 := kp9.cell 1; have e2 := kp9.cell 2
        simp at e0 e1 e2
        rw [hm3] at hrun hw9 e1
        have HR := hide_ hrun
        have HE := hide_ (And.intro e0 (And.intro e1 e2))
        have Hw9 := hide_ hw9
        rw [hm3] at HSh
        clear hrun hO hU hgn kp8 hti hE8 hL8 hu9 kp9 hO9 hE9 e0 e1 e2 hw9 hPb hQr hEr hLb hLc hDl hBw
        go_upto_region 17 with (first
          | (at_builtin; have _t := HR; refine wpList_append_run rfl (.tmp 139) (.tmp 143) 22 22 rfl rfl rfl HR.out ?_; clear HR k1))
        rw [Hw9.out]
        obtain ⟨e0, e1, e2⟩ := HE.out
        clear HE Hw9 k0 k2 k3 zq zc
        go_wp2_with fail
        refine HSh.out.mono ?_
        rintro e w10 ⟨g3, rfl, HG3, HB10⟩
        clear HSh e0 e1 e2
        go_upto_region 18 with fail
        obtain ⟨w11, hw11⟩ : ∃ wx, w10.alloc (.cells #[.int .i64 0, .int .i64 0] 30) = wx := ⟨_, rfl⟩
        have hB11 : Below w10.heap.size w10 w11 := by rw [← hw11]; exact below1 _ _
        have hK11 : Blk w11 w10.heap.size 30 [.int .i64 0, .int .i64 0] := by rw [← hw11]; exact Blk.newA _ _ _
        try rw [hw11]
        clear hw11
        have z0 := hK11.cell 0; have z2 := hK11.cell 1
        simp at z0 z2
        have HB11 := hide_ (below_to HB9.out (below_to HB10.out hB11))
        have HG11 := hide_ (HG3.out.later hB11)
        have HL11 := hide_ ((HL9.out.later HB10.out).later hB11)
        have HIn : Hid (Calls Try.prog 11 #[.slice (some ⟨g3, 0, none⟩) n m3, .slice (some ⟨gl, 0, none⟩) n n] w11 fun e w' => e = .returned (.bool true) ∧ Below w11.heap.size w11 w') := hide_ (by
          have h := ints_any (some ⟨g3, 0, none⟩) (some ⟨gl, 0, none⟩) m3 n LL LL w11 (by have := Hl.out; have := Hn.out; omega) (by have := Hl.out; have := Hn.out; omega) (hide_ (by
            have h := (HG11.out.row).take LL.length
            rw [List.take_left] at h
            exact h)) (hide_ HL11.out.row)
          rw [Hl.out, Hn.out, decide_eq_true (rfl : LL = LL)] at h
          exact h)
        obtain ⟨m1, hm1⟩ : ∃ m1, n + 1 = m1 := ⟨_, rfl⟩
        obtain ⟨m2, hm2⟩ : ∃ m2, n + 2 = m2 := ⟨_, rfl⟩
        have i1 : (n : Int) + 1 = (m1 : Int) := by omega
        have i2 : (n : Int) + 2 = (m2 : Int) := by omega
        have i3 : (n : Int) + 3 = (m3 : Int) := by omega
        have j0 : (n : Int) < (m3 : Int) := by omega
        have j1 : (m1 : Int) < (m3 : Int) := by omega
        have j2 : (m2 : Int) < (m3 : Int) := by omega
        have HCl : Hid (∀ W, Below w11.heap.size w11 W → W.cell? ⟨g3, n, none⟩ = some (.int .i64 (-1)) ∧ W.cell? ⟨g3, m1, none⟩ = some (.int .i64 (-1)) ∧ W.cell? ⟨g3, m2, none⟩ = some (.int .i64 (-1))) := hide_ (fun W hB => by
          have hk := HG11.out.later hB
          have hln : LL.length = n := by rw [Hl.out]; exact Hn.out
          have c : ∀ q, q < 3 → W.cell? ⟨g3, n + q, none⟩ = some (.int .i64 (-1)) := fun q hq => by
            rw [hk.cell, cellsL_append, List.getElem?_append_right (by rw [cellsL_length]; omega), cellsL_length, hln, Nat.add_sub_cancel_left]
            have : q = 0 ∨ q = 1 ∨ q = 2 := by omega
            rcases this with rfl | rfl | rfl <;> rfl
          exact ⟨c 0 (by omega), by rw [← hm1]; exact c 1 (by omega), by rw [← hm2]; exact c 2 (by omega)⟩)
        clear hm1 hm2 hm3 hK11 hB11
        go_wp2_with fail
        refine HIn.out.mono ?_
        rintro e w12 ⟨rfl, hB12⟩
        obtain ⟨c0, c1, c2⟩ := HCl.out w12 hB12
        have HX := hide_ (below_to HB11.out hB12)
        clear hB12 HIn HCl
        go_wp2_with fail
        go_ret
        exact ⟨rfl, HX.out⟩
  · have hv : (vfP en0 C E).1 = 150 := by
      rcases vf_rng HCk.out with h | h
      · rw [h] at h1
        exact absurd rfl h1
      · exact h.1
    obtain ⟨at_, hat⟩ : ∃ at_, (vfP en0 C E).2 = at_ := ⟨_, rfl⟩
    rw [hv, hat]
    go_upto_region 6 with fail
    obtain ⟨w7, hw7⟩ : ∃ wx, w6.alloc (.cells #[.int .i64 150, .int .i64 at_] 30) = wx := ⟨_, rfl⟩
    have hB7 : Below w6.heap.size w6 w7 := by rw [← hw7]; exact below1 _ _
    have hK7 : Blk w7 w6.heap.size 30 [.int .i64 150, .int .i64 at_] := by rw [← hw7]; exact Blk.newA _ _ _
    try rw [hw7]
    clear hw7
    have z0 := hK7.cell 0; have z1 := hK7.cell 1
    simp at z0 z1
    have HX := hide_ (below_to HB5.out (below_to hB6 hB7))
    clear h1 hv hat hB6 hB7 hK7
    go_wp2_with fail
    go_ret
    exact ⟨rfl, HX.out⟩
end Go.Proofs.Ytnmffeeieclmfaa
