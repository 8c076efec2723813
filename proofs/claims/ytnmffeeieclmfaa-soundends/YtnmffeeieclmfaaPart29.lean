import Derived.Test.YtnmffeeieclmfaaPart28
import Derived.Test.YtnmffeeieclmfaaPart16
import Derived.Test.YtnmffeeieclmfaaPart17

/- sound's laws: made. -/
namespace Go.Proofs.Ytnmffeeieclmfaa
open Go.RowKit
set_option linter.unusedVariables false
set_option linter.unusedSimpArgs false

theorem COwn.cut1 {w : World} {B g cap : Nat} {C : List In} {x : In} (h : COwn w B (.slice (some ⟨g, 0, none⟩) (C.length + 1) cap) (C ++ [x])) : COwn w B (.slice (some ⟨g, 0, none⟩) C.length cap) C := by
  unfold COwn at h
  rw [List.length_append, List.length_singleton] at h
  obtain ⟨g', cap', ys, e, hb, hn, hm, hl, ht, hK⟩ := ownS_blk h (by omega)
  injection e with e1 e2 e3
  injection e1 with e1
  injection e1 with e1 _ _
  subst e1 e3
  have h9 := ownS_of_blk (n := C.length) (c := 4) hK hb hl (by omega) hm
  have e9 : ys.take (C.length * 4) = cellsG inc C := by
    have e8 : ys.take (C.length * 4) = (ys.take ((C.length + 1) * 4)).take (C.length * 4) := by rw [List.take_take, Nat.min_eq_left (by omega)]
    have hlc : (cellsG inc C).length = C.length * 4 := cellsG_len inc_len C
    rw [e8, ht, cellsG_app, List.take_append_of_le_length (by omega), List.take_of_length_le (by omega)]
  rw [e9] at h9
  exact h9
theorem IOwn.cut1 {w : World} {B g cap : Nat} {E : List Int} {x : Int} (h : IOwn w B (.slice (some ⟨g, 0, none⟩) (E.length + 1) cap) (E ++ [x])) : IOwn w B (.slice (some ⟨g, 0, none⟩) E.length cap) E := by
  have h1 := h.cutV (m := E.length) (by rw [List.length_append, List.length_singleton]) (by omega)
  rw [List.take_left] at h1
  exact h1
/-- What made answers: a program of the call's own that has its form. -/
def Md15 (enc : Bool) (w : World) (e : Ending) (w' : World) : Prop := ∃ C E ac cc ae ce, e = .returned (.agg #[.bool enc, .slice ac C.length cc, .slice ae E.length ce]) ∧ Chk enc C E ∧ 0 < C.length ∧ C.length ≤ 100 ∧ COwn w' w.heap.size (.slice ac C.length cc) C ∧ IOwn w' w.heap.size (.slice ae E.length ce) E ∧ Below w.heap.size w w'
theorem COwn.capM {w : World} {B : Nat} {a : Option Addr} {n c : Nat} {l : List In} (h : COwn w B (.slice a n c) l) : c ≤ 9223372036854775807 := by
  by_cases h0 : 0 < l.length
  · obtain ⟨g', cap', ys, e, hb, hn, hm, -⟩ := ownS_blk h h0
    injection e with _ _ e
    unfold maxLen at hm
    omega
  · rcases h.2 with ⟨e, -⟩ | ⟨g, cap, cur, e, -, -, -, hm, -⟩
    · injection e with _ _ e; omega
    · injection e with _ _ e
      unfold maxLen at hm
      omega
/-- What Made and Lend answer, in one form. -/
def MdQ (enc : Bool) (w : World) (e : Ending) (w' : World) : Prop := ∃ C E ac cc ae ce, e = .returned (.agg #[.bool enc, .slice ac C.length cc, .slice ae E.length ce]) ∧ Hid (Chk enc C E ∧ 0 < C.length ∧ C.length ≤ 100 ∧ COwn w' w.heap.size (.slice ac C.length cc) C ∧ IOwn w' w.heap.size (.slice ae E.length ce) E) ∧ Hid (Below w.heap.size w w')
theorem MadeTo.q {enc : Bool} {most : Nat} {w w' : World} {e : Ending} (hm : most ≤ 99) (h : MadeTo enc most w e w') : MdQ enc w e w' := by
  obtain ⟨vC, vE, C, E, rfl, h1, h2, h3, -, h5, h6, h7⟩ := h
  obtain ⟨ac, cc, rfl, -⟩ := h5.row
  obtain ⟨ae, ce, rfl, -⟩ := h6.row
  exact ⟨C, E, ac, cc, ae, ce, rfl, hide_ ⟨h1, h2, by omega, h5, h6⟩, hide_ h7⟩
theorem LeTo.q {enc : Bool} {C : List In} {E : List Int} {w w' : World} {e : Ending} (hK : Chk enc C E) (h0 : 0 < C.length) (h1 : C.length ≤ 100) (h : LeTo enc C E w e w') : MdQ enc w e w' := by
  obtain ⟨gC, cC, gE, cE, rfl, hL, hB⟩ := h
  exact ⟨C, E, _, _, _, _, rfl, hide_ ⟨hK, h0, h1, hL.out.c.cut1, hL.out.e.cut1⟩, hB⟩
theorem md_fin {fn : Func} {p : Tmp} (hf : fn.results = #[.cell p 25]) {enc : Bool} {w w1 w2 : World} {C : List In} {E : List Int} {ac ae : Option Addr} {cc ce : Nat} {tmps : Array Value} (hB1 : Below w.heap.size w w1) (KF : Blk w2 (w.heap.size + 1) 25 [.bool false, .slice none 0 0, .slice none 0 0]) (hlt : w.heap.size + 1 < w1.heap.size)
    (hp : tmps.getD p undef = .pointer (some ⟨w.heap.size + 1, 0, none⟩)) (h : Chk enc C E ∧ 0 < C.length ∧ C.length ≤ 100 ∧ COwn w2 w1.heap.size (.slice ac C.length cc) C ∧ IOwn w2 w1.heap.size (.slice ae E.length ce) E) (hB2 : Below w1.heap.size w1 w2) :
    bodyPost Try.prog fn (Md15 enc w) Exit.ret ⟨tmps, []⟩ (((w2.setCell ⟨w.heap.size + 1, 0, none⟩ (.bool enc)).setCell ⟨w.heap.size + 1, 1, none⟩ (.slice ac C.length cc)).setCell ⟨w.heap.size + 1, 2, none⟩ (.slice ae E.length ce)) := by
  refine retP hf hp (setP KF _ _ _) ?_
  have hu := upd3 w2 (w.heap.size + 1) (.bool enc) (.slice ac C.length cc) (.slice ae E.length ce)
  refine ⟨C, E, ac, cc, ae, ce, rfl, h.1, h.2.1, h.2.2.1, own_base (ownS_upd h.2.2.2.1 hu (fun k hk e => by have := (World.ownsRow.lt h.2.2.2.1 k hk).1; omega)) hB1.size, own_base (owns_upd h.2.2.2.2 hu (fun k hk e => by have := (h.2.2.2.2.lies hk).1; omega)) hB1.size, below_wr3 (below_to hB1 hB2) (by omega) _ _ _⟩
set_option maxRecDepth 100000 in
set_option maxHeartbeats 16000000 in
theorem made15_any (enc : Bool) (ac ae : Option Addr) (cc ce : Nat) (C : List In) (E : List Int) (w : World) (hCl : C.length ≤ 4398046511104) (hel : E.length ≤ 17592186044415) (hcn : ac = none → cc = 0) (hen : ae = none → ce = 0) (hr : Hid (IRow w ac C)) (he : Hid (Row .i64 w ae E)) :
    Calls Try.prog 9 #[.agg #[.bool enc, .slice ac C.length cc, .slice ae E.length ce]] w (Md15 enc w) := by
  obtain ⟨w1, hw1⟩ : ∃ wx, (w.alloc (.cells #[.bool enc, .slice ac C.length cc, .slice ae E.length ce] 25)).alloc (.cells #[.bool false, .slice none 0 0, .slice none 0 0] 25) = wx := ⟨_, rfl⟩
  have hB1 : Below w.heap.size w w1 := by rw [← hw1]; exact below2 _ _ _
  obtain ⟨kp, kf⟩ := blk2 w #[.bool enc, .slice ac C.length cc, .slice ae E.length ce] #[.bool false, .slice none 0 0, .slice none 0 0] 25 25
  rw [hw1] at kp kf
  have hlt := kf.lt
  have p0 := kp.cell 0; have p1 := kp.cell 1; have p2 := kp.cell 2
  simp at p0 p1 p2
  have KP := hide_ kp
  have KF := hide_ kf
  have HB1 := hide_ hB1
  have Hlt := hide_ hlt
  have HMd : Hid (∀ w', Below w1.heap.size w1 w' → Calls Try.prog 12 #[.agg #[.bool enc, .slice ac C.length cc, .slice ae E.length ce], .int .i64 60] w' (MdQ enc w')) := hide_ (fun w' hB => by
    have h1 := below_to hB1 hB
    exact (rmade_any enc ac ae cc ce C E 60 w' (by omega) hCl hel hcn hen (hide_ (hr.out.later h1)) (hide_ (he.out.later h1))).mono (fun e w2 h => h.q (by omega)))
  clear kp kf hB1 hlt
  by_cases h1 : C.length < 1
  · have h1' : (C.length : Int) < 1 := by omega
    go_enter Try.func9, Try.ntmps9
    go_upto_region 1 with fail
    try rw [hw1]
    clear hw1
    go_wp2_with fail
    refine (HMd.out w1 (Below.refl _ _)).mono ?_
    rintro e w2 ⟨C2, E2, a2, c2, b2, d2, rfl, HQ, HB2⟩
    have KF2 := hide_ (KF.out.later HB2.out)
    have z0 := KF2.out.cell 0; have z1 := KF2.out.cell 1; have z2 := KF2.out.cell 2
    have zf := fun i => KF2.out.frozen i
    simp at z0 z1 z2
    go_wp2_with fail
    exact md_fin rfl HB1.out KF2.out Hlt.out rfl HQ.out HB2.out
  have h1' : ¬ (C.length : Int) < 1 := by omega
  by_cases h2 : 100 < C.length
  · have h2' : (100 : Int) < C.length := by omega
    go_enter Try.func9, Try.ntmps9
    go_upto_region 1 with fail
    try rw [hw1]
    clear hw1
    go_wp2_with fail
    refine (HMd.out w1 (Below.refl _ _)).mono ?_
    rintro e w2 ⟨C2, E2, a2, c2, b2, d2, rfl, HQ, HB2⟩
    have KF2 := hide_ (KF.out.later HB2.out)
    have z0 := KF2.out.cell 0; have z1 := KF2.out.cell 1; have z2 := KF2.out.cell 2
    have zf := fun i => KF2.out.frozen i
    simp at z0 z1 z2
    go_wp2_with fail
    exact md_fin rfl HB1.out KF2.out Hlt.out rfl HQ.out HB2.out
  have h2' : ¬ (100 : Int) < C.length := by omega
  by_cases h3 : 20 < E.length
  · have h3' : (20 : Int) < E.length := by omega
    go_enter Try.func9, Try.ntmps9
    go_upto_region 1 with fail
    try rw [hw1]
    clear hw1
    go_wp2_with fail
    refine (HMd.out w1 (Below.refl _ _)).mono ?_
    rintro e w2 ⟨C2, E2, a2, c2, b2, d2, rfl, HQ, HB2⟩
    have KF2 := hide_ (KF.out.later HB2.out)
    have z0 := KF2.out.cell 0; have z1 := KF2.out.cell 1; have z2 := KF2.out.cell 2
    have zf := fun i => KF2.out.frozen i
    simp at z0 z1 z2
    go_wp2_with fail
    exact md_fin rfl HB1.out KF2.out Hlt.out rfl HQ.out HB2.out
  have h3' : ¬ (20 : Int) < E.length := by omega
  obtain ⟨K, hK⟩ : ∃ K, chk enc C E = K := ⟨_, rfl⟩
  have HCk := hide_ (rcheck_any enc ac ae cc ce C E w1 (by omega) (by omega) (hide_ (hr.out.later HB1.out)) (hide_ (he.out.later HB1.out)))
  rw [hK] at HCk
  go_enter Try.func9, Try.ntmps9
  go_upto_region 1 with fail
  try rw [hw1]
  clear hw1
  go_wp2_with fail
  refine HCk.out.mono ?_
  rintro e w3 ⟨rfl, hB3⟩
  have KP3 := hide_ (KP.out.later hB3)
  have KF3 := hide_ (KF.out.later hB3)
  have HB3 := hide_ hB3
  clear p0 p1 p2 HCk hB3
  have p0 := KP3.out.cell 0; have p1 := KP3.out.cell 1; have p2 := KP3.out.cell 2
  simp at p0 p1 p2
  have hfl := fld0 (.int .i64 K.1) (.int .i64 K.2) w3
  by_cases h0 : K.1 = 0
  · have f0 : (K.1 == 0) = true := by simpa using h0
    have HLe : Hid (Calls Try.prog 18 #[.agg #[.bool enc, .slice ac C.length cc, .slice ae E.length ce]] w3 (MdQ enc w3)) := hide_ (by
      have h5 := below_to HB1.out HB3.out
      have hKk : Chk enc C E := chk_ok.1 (chk_zero (by rw [hK]; exact h0))
      exact (lend_any enc ac ae cc ce C E w3 (by omega) (by omega) hcn hen (hide_ (hr.out.later h5)) (hide_ (he.out.later h5))).mono (fun e w2 h => h.q hKk (by omega) (by omega)))
    clear h0
    go_wp2_with fail
    refine HLe.out.mono ?_
    rintro e w2 ⟨C2, E2, a2, c2, b2, d2, rfl, HQ, HB2⟩
    have KF2 := hide_ (KF3.out.later HB2.out)
    have z0 := KF2.out.cell 0; have z1 := KF2.out.cell 1; have z2 := KF2.out.cell 2
    have zf := fun i => KF2.out.frozen i
    simp at z0 z1 z2
    go_wp2_with fail
    exact md_fin rfl (below_to HB1.out HB3.out) KF2.out (Nat.lt_of_lt_of_le Hlt.out HB3.out.size) rfl HQ.out HB2.out
  · have f0 : (K.1 == 0) = false := by simpa using h0
    clear h0
    go_wp2_with fail
    refine (HMd.out w3 HB3.out).mono ?_
    rintro e w2 ⟨C2, E2, a2, c2, b2, d2, rfl, HQ, HB2⟩
    have KF2 := hide_ (KF3.out.later HB2.out)
    have z0 := KF2.out.cell 0; have z1 := KF2.out.cell 1; have z2 := KF2.out.cell 2
    have zf := fun i => KF2.out.frozen i
    simp at z0 z1 z2
    go_wp2_with fail
    exact md_fin rfl (below_to HB1.out HB3.out) KF2.out (Nat.lt_of_lt_of_le Hlt.out HB3.out.size) rfl HQ.out HB2.out
end Go.Proofs.Ytnmffeeieclmfaa

/- SoundEnds: the walk. -/
namespace Go.Proofs.Ytnmffeeieclmfaa
open Go.RowKit
set_option linter.unusedVariables false
set_option linter.unusedSimpArgs false

theorem shp_came {enc : Bool} {s : St} (hs : SOk s) (h : s.pl ≠ 0) : mShp enc s ≠ -1 := by
  have h1 := hs.le
  have h2 := ocI_in (s.ki : Int)
  unfold mShp eShp dShp
  repeat' split
  all_goals omega
theorem shp_not {enc : Bool} {s : St} (h : s.pl = 0) : mShp enc s = -1 := by
  unfold mShp eShp dShp
  split
  · simp [h]
  · simp [h]
theorem ret_shp {enc : Bool} {s : St} {x : In} {r : Int} (hs : SOk s) (ho : x.op = 20) (h : mSt enc s x r = true) : mShp enc s ≠ 0 := by
  have h2 := ocI_in (s.ki : Int)
  unfold mSt at h
  split at h
  · rename_i he
    unfold eSt at h
    rw [if_neg (by omega), if_neg (by omega), if_neg (by omega), if_neg (by omega), if_neg (by omega), if_neg (by omega), if_pos ho] at h
    have e := (stEq_iff _ _).1 h
    rw [e, he]
    decide
  · rename_i he
    unfold dSt at h
    rw [if_neg (by omega), if_neg (by omega), if_neg (by omega), if_neg (by omega), if_neg (by omega), if_neg (by omega), if_neg (by omega), if_neg (by omega), if_neg (by omega), if_neg (by omega), if_pos ho] at h
    have hp : s.pl ≠ 2 ∧ s.pl ≠ 0 := by
      unfold wholeP at h
      split at h
      · omega
      split at h
      · omega
      · cases h
    unfold mShp dShp
    rw [if_neg he, if_neg hp.2, if_neg hp.1]
    split <;> omega
theorem arm_no {enc : Bool} {s : St} {x : In} {r : Int} (ho : x.op = 9) : mSt enc s x r = false := by
  unfold mSt
  split
  · unfold eSt
    rw [if_neg (by omega), if_neg (by omega), if_neg (by omega), if_neg (by omega), if_neg (by omega), if_neg (by omega), if_neg (by omega)]
    simp [ho]
  · unfold dSt
    rw [if_neg (by omega), if_neg (by omega), if_neg (by omega), if_neg (by omega), if_neg (by omega), if_neg (by omega), if_neg (by omega), if_neg (by omega), if_neg (by omega), if_neg (by omega), if_neg (by omega)]
    simp [ho]
def tgP (op : Int) : Bool := decide (op = 7 ∨ op = 9 ∨ op = 11 ∨ op = 12 ∨ op = 13 ∨ op = 14 ∨ op = 15 ∨ op = 19 ∨ op = 40 ∨ op = 47)
/-- What SoundEnds asks of each instruction. -/
structure EndI (enc : Bool) (C : List In) (L : List Int) (i : Nat) (x : In) : Prop where
  ret : x.op = 20 → hAt L i ≠ 0
  arm : x.op ≠ 9
  un : x.op = 8 ∨ x.op = 41 → (1 ≤ x.a ∧ x.a ≤ 64) ∧ ∀ q : Nat, 1 ≤ q → (q : Int) ≤ x.a → i + q < C.length ∧ ∃ y : Nat, (inA C (i + q)).b = (y : Int) ∧ y < C.length ∧ hAt L y ≠ -1
  tgt : x.op ≠ 20 → x.op ≠ 9 → x.op ≠ 8 → x.op ≠ 41 → tgP x.op = true → ∃ y : Nat, x.b = (y : Int) ∧ y < C.length ∧ hAt L y ≠ -1
  nxt : x.op ≠ 20 → x.op ≠ 9 → x.op ≠ 8 → x.op ≠ 41 → x.op ≠ 19 → i + 1 < C.length ∧ hAt L (i + 1) ≠ -1
theorem shP_at {enc : Bool} {C : List In} {E : List Int} {k : Nat} (hk : k < (stP enc C E).length) : hAt (shP enc C E) k = mShp enc (stA (stP enc C E) k) := by
  unfold hAt shP stA
  simp [List.getD, hk]
theorem vf_first {enc : Bool} {C : List In} {E : List Int} (hK : Chk enc C E) (h : (vfP enc C E).1 = 0) : (firstP enc C E 0 (List.replicate C.length st0)).1 = 1048576 := by
  unfold vfP at h
  have hc : (chk enc C E).1 = 0 := by rw [chk_ok.2 hK]
  rw [if_neg (fun h => h hc)] at h
  by_cases h1 : (firstP enc C E 0 (List.replicate C.length st0)).1 = 1048576
  · exact h1
  · rw [if_pos h1] at h
    cases h
theorem ends_ok {enc : Bool} {C : List In} {E : List Int} (hK : Chk enc C E) (h : (vfP enc C E).1 = 0) : (∀ i, i < E.length → ∃ y : Nat, E.getD i 0 = (y : Int) ∧ y < C.length ∧ hAt (shP enc C E) y ≠ -1) ∧ ∀ i, i < C.length → hAt (shP enc C E) i ≠ -1 → EndI enc C (shP enc C E) i (inA C i) := by
  have h1 := vf_first hK h
  obtain ⟨a1, a2, a3, a4⟩ := firstP_all hK h1
  have hst := taken_std hK h1
  have hsh : ∀ y : Int, 0 ≤ y → y < (C.length : Int) → cameP (stP enc C E) y.toNat = true → ∃ z : Nat, y = (z : Int) ∧ z < C.length ∧ hAt (shP enc C E) z ≠ -1 := fun y y0 y1 hc => by
    refine ⟨y.toNat, by omega, by omega, ?_⟩
    rw [shP_at (by rw [a2]; omega)]
    exact shp_came (a1 _) (by unfold cameP at hc; simpa using hc)
  refine ⟨fun i hi => ?_, fun i hi hl => ?_⟩
  · have e1 := hK.ent i hi
    have e2 : E.getD i 0 ∈ E := by
      have e : E.getD i 0 = E[i] := by simp [List.getD, hi]
      rw [e]
      exact List.getElem_mem hi
    exact hsh _ e1.1 e1.2 (a4 _ e2)
  · have hc : cameP (stP enc C E) i = true := by
      rw [shP_at (by rw [a2]; exact hi)] at hl
      unfold cameP
      by_cases hp : (stA (stP enc C E) i).pl = 0
      · exact absurd (shp_not hp) hl
      · simpa using hp
    obtain ⟨r, hr⟩ := hst i hi hc
    obtain ⟨hin, hcl⟩ := a3 i hi hc
    have hw : ∀ y ∈ waysP C i, ∃ z : Nat, y = (z : Int) ∧ z < C.length ∧ hAt (shP enc C E) z ≠ -1 := fun y hy => hsh y (hin y hy).1 (hin y hy).2 (hcl y hy)
    refine ⟨fun ho => ?_, fun ho => ?_, fun ho => ?_, fun h20 h9 h8 h41 ht => ?_, fun h20 h9 h8 h41 h19 => ?_⟩
    · rw [shP_at (by rw [a2]; exact hi)]
      exact ret_shp (a1 i) ho hr
    · rw [arm_no ho] at hr
      cases hr
    · have ha := hK.cdok.arm i hi ho
      refine ⟨⟨ha.1, ha.2.1⟩, fun q q1 q2 => ⟨by omega, ?_⟩⟩
      refine hw _ ?_
      unfold waysP
      rw [if_neg (by omega), if_neg (by omega), if_pos ho]
      refine List.mem_map.2 ⟨q - 1, List.mem_range.2 (by omega), ?_⟩
      rw [show i + 1 + (q - 1) = i + q by omega]
    · refine hw _ ?_
      unfold tgP at ht
      have ht := of_decide_eq_true ht
      unfold waysP
      by_cases h19 : (inA C i).op = 19
      · rw [if_pos h19]; simp
      · rw [if_neg h19, if_neg h20, if_neg (by omega), if_pos (by omega)]
        simp
    · have hm : (i : Int) + 1 ∈ waysP C i := by
        unfold waysP
        rw [if_neg h19, if_neg h20, if_neg (by omega)]
        split <;> simp
      obtain ⟨z, z1, z2, z3⟩ := hw _ hm
      have e : z = i + 1 := by omega
      rw [e] at z2 z3
      exact ⟨z2, z3⟩
set_option maxRecDepth 100000 in
set_option maxHeartbeats 16000000 in
theorem targets_any (op : Int) (w : World) : Calls Try.prog 13 #[.int .i64 op] w fun e w' => e = .returned (.bool (tgP op)) ∧ w = w' := by
  obtain ⟨d, hd⟩ : ∃ d, tgP op = d := ⟨_, rfl⟩
  rw [hd]
  unfold tgP at hd
  have Hd := hide_ hd
  clear hd
  cases d
  · have h := of_decide_eq_false Hd.out
    have f1 : (op == 7) = false := by simp; omega
    have f2 : (op == 9) = false := by simp; omega
    have f3 : (op == 11) = false := by simp; omega
    have f4 : (op == 12) = false := by simp; omega
    have f5 : (op == 13) = false := by simp; omega
    have f6 : (op == 14) = false := by simp; omega
    have f7 : (op == 15) = false := by simp; omega
    have f8 : (op == 19) = false := by simp; omega
    have f9 : (op == 40) = false := by simp; omega
    have f10 : (op == 47) = false := by simp; omega
    clear h
    go_enter Try.func13, Try.ntmps13
    go_wp2
    go_ret
    exact ⟨rfl, rfl⟩
  · have h := of_decide_eq_true Hd.out
    have H := hide_ h
    clear h Hd
    go_enter Try.func13, Try.ntmps13
    rcases H.out with rfl | rfl | rfl | rfl | rfl | rfl | rfl | rfl | rfl | rfl <;> (clear H; go_wp2; go_ret; exact ⟨rfl, rfl⟩)
set_option maxRecDepth 100000 in
set_option maxHeartbeats 16000000 in
theorem sends_any (en0 : Bool) (a0 b0 : Option Addr) (c0 d0 : Nat) (P0 : List In) (E0 : List Int) (w : World) (hP1 : P0.length ≤ 4398046511104) (hE1 : E0.length ≤ 17592186044415) (n1 : a0 = none → c0 = 0) (m1 : b0 = none → d0 = 0) (r1 : Hid (IRow w a0 P0)) (s1 : Hid (Row .i64 w b0 E0)) :
    Calls Try.prog 6 #[.agg #[.bool en0, .slice a0 P0.length c0, .slice b0 E0.length d0]] w fun e w' => e = .returned (.bool true) ∧ Below w.heap.size w w' := by
  obtain ⟨w0, hw0⟩ : ∃ w0, w.alloc (.cells #[.bool en0, .slice a0 P0.length c0, .slice b0 E0.length d0] 25) = w0 := ⟨_, rfl⟩
  have hB0 : Below w.heap.size w w0 := by rw [← hw0]; exact below1 _ _
  have hK0 : Blk w0 w.heap.size 25 [.bool en0, .slice a0 P0.length c0, .slice b0 E0.length d0] := by rw [← hw0]; exact Blk.newA _ _ _
  have HK0 := hide_ hK0
  have HB0 := hide_ hB0
  have HM1 : Hid (∀ w', Below w.heap.size w w' → Calls Try.prog 9 #[.agg #[.bool en0, .slice a0 P0.length c0, .slice b0 E0.length d0]] w' (Md15 en0 w')) := hide_ (fun w' hB => made15_any en0 a0 b0 c0 d0 P0 E0 w' hP1 hE1 n1 m1 (hide_ (r1.out.later hB)) (hide_ (s1.out.later hB)))
  clear r1 s1 n1 m1 hB0 hK0
  go_enter Try.func6, Try.ntmps6
  go_upto_region 1 with fail
  try rw [hw0]
  clear hw0
  go_wp2_with fail
  refine (first15_any w0).mono ?_
  rintro e w1 ⟨rfl, hB1⟩
  have HB1 := hide_ (below_to HB0.out hB1)
  have K1 := HK0.out.later hB1
  have p0 := K1.cell 0; have p1 := K1.cell 1; have p2 := K1.cell 2
  simp at p0 p1 p2
  have HMa := hide_ (HM1.out w1 HB1.out)
  clear hB1 HB0 HK0 K1
  go_wp2_with fail
  refine HMa.out.mono ?_
  rintro e w2 hT2
  obtain ⟨C, E, ac, cc, ae, ce, rfl, hCk, hn0, hn1, hCo, hEo, hB2⟩ := hT2
  clear HMa p0 p1 p2
  go_upto_region 4 with fail
  obtain ⟨w3, hw3⟩ : ∃ wx, w2.alloc (.cells #[.bool en0, .slice ac C.length cc, .slice ae E.length ce] 25) = wx := ⟨_, rfl⟩
  have hB3 : Below w2.heap.size w2 w3 := by rw [← hw3]; exact below1 _ _
  have hK3 : Blk w3 w2.heap.size 25 [.bool en0, .slice ac C.length cc, .slice ae E.length ce] := by rw [← hw3]; exact Blk.newA _ _ _
  obtain ⟨qp, hqp⟩ : ∃ qp, w2.heap.size = qp := ⟨_, rfl⟩
  try rw [hw3]
  rw [hqp] at hK3 ⊢
  have hcap := hCo.capM
  obtain ⟨a, c, e1, e2, -, e4⟩ := hCo.row
  injection e1 with e1 _ e3
  subst e1 e3
  obtain ⟨a, c, f1, f2, -, f4⟩ := hEo.row
  injection f1 with f1 _ f3
  subst f1 f3
  have HR3 := hide_ (e4.later hB3)
  have HE3 := hide_ (f2.later hB3)
  have HB3 := hide_ (below_to (below_to HB1.out hB2) hB3)
  have HK3 := hide_ hK3
  have hel : E.length ≤ 1048576 := hCk.ne
  have HCk := hide_ hCk
  have p0 := hK3.cell 0; have p1 := hK3.cell 1; have p2 := hK3.cell 2
  simp at p0 p1 p2
  have HSh := hide_ (shape_any en0 ac ae cc ce C E w3 e2 hcap (by omega) f4 (by omega) HR3 HE3)
  clear hw3 hqp hB2 hB3 hK3 hCo hEo e4 f2 hCk HB1
  go_wp2_with fail
  refine HSh.out.mono ?_
  rintro e w4 ⟨hB4, hT4⟩
  have HB4 := hide_ (below_to HB3.out hB4)
  have HK4 := hide_ (HK3.out.later hB4)
  have HR4 := hide_ (HR3.out.later hB4)
  have HE4 := hide_ (HE3.out.later hB4)
  clear HSh p0 p1 p2 HK3 HR3 HE3 HB3 hB4
  rcases hT4 with ⟨h1, h2, -, hl, g, rfl, -, hb⟩ | ⟨h1, rfl⟩
  · go_upto_region 5 with fail
    obtain ⟨w5, hw5⟩ : ∃ wx, w4.alloc (.cells #[.int .i64 0, .int .i64 0] 30) = wx := ⟨_, rfl⟩
    have hB5 : Below w4.heap.size w4 w5 := by rw [← hw5]; exact below1 _ _
    have hK5 : Blk w5 w4.heap.size 30 [.int .i64 0, .int .i64 0] := by rw [← hw5]; exact Blk.newA _ _ _
    try rw [hw5]
    clear hw5
    have z0 := hK5.cell 0; have z1 := hK5.cell 1
    simp at z0 z1
    obtain ⟨LL, hLL⟩ : ∃ LL, shP en0 C E = LL := ⟨_, rfl⟩
    obtain ⟨x1, x2⟩ := ends_ok HCk.out h1
    rw [hLL] at x1 x2 hb hl
    have Hx1 := hide_ x1
    have Hx2 := hide_ x2
    have Hl := hide_ hl
    obtain ⟨n, hn⟩ : ∃ n, C.length = n := ⟨_, rfl⟩
    have Hn := hide_ hn
    obtain ⟨bc, oc, hac, hbc, hcc⟩ := HR4.out.open hn0
    subst hac
    have HKx : Hid (∀ W, Below w5.heap.size w5 W → W.cell? ⟨qp, 1, none⟩ = some (.slice (some ⟨bc, oc, none⟩) n cc) ∧ W.cell? ⟨qp, 2, none⟩ = some (.slice ae E.length ce) ∧ IRow W (some ⟨bc, oc, none⟩) C ∧ Row .i64 W ae E ∧ ∀ k, k < n → W.cell? ⟨g, k, none⟩ = some (.int .i64 (hAt LL k))) := hide_ (fun W hB => by
      have hBB := below_to hB5 hB
      have k1 := (HK4.out.later hBB).cell 1
      have k2 := (HK4.out.later hBB).cell 2
      simp at k1 k2
      rw [hn] at k1
      refine ⟨k1, k2, HR4.out.later hBB, HE4.out.later hBB, fun k hk => ?_⟩
      rw [(hb.later hBB).cell, cellsL_at .i64 LL k (by omega)]
      rfl)
    have HB5 := hide_ (below_to HB4.out hB5)
    obtain ⟨k1, -⟩ := HKx.out w5 (Below.refl _ _)
    try rw [hn]
    have hn9 : n ≤ 1048576 := by have := HCk.out.nc; omega
    have hn0' : 0 < n := by omega
    clear h1 h2 hl hb hB5 hK5 hLL x1 x2 hbc hcc HK4 HR4 HE4 HB4 hn hn0 hn1 e2 hcap f4
    go_wp2_with fail
    clear k1 z0 z1
    go_loopw [6] (fun x6 wr => ∃ j : Nat, j ≤ E.length ∧ x6 = .int .i64 (j : Int) ∧ w5 = wr) (fun x6 _ => E.length - (intOf x6).toNat)
    case atStart => exact ⟨0, Nat.zero_le _, rfl, rfl⟩
    case round =>
      obtain ⟨j, hj, rfl, rfl⟩ := hrel
      obtain ⟨k1, k2, hR, hE, hL⟩ := HKx.out w5 (Below.refl _ _)
      by_cases hlt : j < E.length
      · have hlt' : (j : Int) < (E.length : Int) := by omega
        obtain ⟨be, oe, hae, -, hcE⟩ := hE.open (by omega)
        have ce1 := hcE j hlt
        obtain ⟨y, ey, hy, hz⟩ := Hx1.out j hlt
        rw [Hn.out] at hy
        rw [ey] at ce1
        have cl := hL y hy
        have hy' : (y : Int) < (n : Int) := by omega
        have f0 : (hAt LL y == -1) = false := by simpa using hz
        subst hae
        clear hR hE hL hcE ey hz
        go_wp2_with fail
        go_roundw
        case rel => exact ⟨j + 1, by omega, by go_num, trivial⟩
        case measure => simp [intOf]; omega
      · have hlt' : ¬ ((j : Int) < (E.length : Int)) := by omega
        clear hR hE hL
        go_wp2_with fail
        clear k1 k2
        go_loopw [7] (fun x7 wr => ∃ i : Nat, i ≤ n ∧ x7 = .int .i64 (i : Int) ∧ Hid (Below w5.heap.size w5 wr)) (fun x7 _ => n - (intOf x7).toNat)
        case atStart => exact ⟨0, Nat.zero_le _, rfl, hide_ (Below.refl _ _)⟩
        case round =>
          obtain ⟨i, hi, rfl, HBi⟩ := hrel
          generalize wr = wq at *
          by_cases hil : i < n
          · have hil' : (i : Int) < (n : Int) := by omega
            obtain ⟨k1, -, hR, -, hL⟩ := HKx.out wq HBi.out
            have cl := hL i hil
            obtain ⟨x, hx⟩ : ∃ x, C[i]? = some x := ⟨_, List.getElem?_eq_getElem (by rw [Hn.out]; exact hil)⟩
            obtain ⟨i0, i1, i2, i3⟩ := hR.at hx
            have hxA : inA C i = x := inA_at hx
            obtain ⟨w6, hw6⟩ : ∃ wx, wq.alloc (.cells #[.int .i64 x.op, .int .i64 x.a, .int .i64 x.b, .int .i64 x.c] 36) = wx := ⟨_, rfl⟩
            have hB6 : Below wq.heap.size wq w6 := by rw [← hw6]; exact below1 _ _
            have KX : Blk w6 wq.heap.size 36 (inc x) := by rw [← hw6]; exact Blk.newA _ _ _
            obtain ⟨qx, hqx⟩ : ∃ qx, wq.heap.size = qx := ⟨_, rfl⟩
            have HB6 := hide_ (below_to HBi.out hB6)
            go_upto_region 18 with fail
            try rw [hw6]
            rw [hqx] at KX
            try rw [hqx]
            obtain ⟨j0, j1, j2, j3⟩ := KX.ci
            obtain ⟨k1, -, hR, -, hL⟩ := HKx.out w6 HB6.out
            have cl := hL i hil
            have HKX := hide_ KX
            obtain ⟨v, hv⟩ : ∃ v, hAt LL i = v := ⟨_, rfl⟩
            rw [hv] at cl
            have Hen : Hid (v ≠ -1 → EndI en0 C LL i x) := hide_ (fun h => by
              have := Hx2.out i (by rw [Hn.out]; exact hil) (by rw [hv]; exact h)
              rw [hxA] at this
              exact this)
            have Hv := hide_ hv
            have HL6 := hide_ hL
            have HR6 := hide_ hR
            clear hx i0 i1 i2 i3 hxA hw6 hB6 KX hqx hv hL hR HBi
            by_cases hv1 : v = -1
            · have f0 : (v == -1) = true := by simpa using hv1
              clear hv1
              go_wp2_with fail
              go_roundw
              case rel => exact ⟨i + 1, by omega, by go_num, HB6⟩
              case measure => simp [intOf]; omega
            have f0 : (v == -1) = false := by simpa using hv1
            have hE := Hen.out hv1
            clear hv1 Hen
            by_cases h20 : x.op = 20
            · have g0 : (x.op == 20) = true := by simpa using h20
              have g1 : (v == 0) = false := by have := hE.ret h20; rw [Hv.out] at this; simpa using this
              clear hE h20
              go_wp2_with fail
              go_roundw
              case rel => exact ⟨i + 1, by omega, by go_num, HB6⟩
              case measure => simp [intOf]; omega
            have g0 : (x.op == 20) = false := by simpa using h20
            have g9 : (x.op == 9) = false := by simpa using hE.arm
            by_cases hun : x.op = 8 ∨ x.op = 41
            · obtain ⟨ha, hq⟩ := hE.un hun
              have Hq := hide_ hq
              clear hE hq
              by_cases h8 : x.op = 8
              · have g8 : (x.op == 8) = true := by simpa using h8
                clear h8 hun h20
                go_wp2_with fail
                go_loopw [9] (fun x9 wr => ∃ q : Nat, 1 ≤ q ∧ (q : Int) ≤ x.a + 1 ∧ x9 = .int .i64 (q : Int) ∧ w6 = wr) (fun x9 _ => (x.a + 1 - intOf x9).toNat)
                case atStart => exact ⟨1, by omega, by omega, rfl, rfl⟩
                case round =>
                  obtain ⟨q, q1, q2, rfl, rfl⟩ := hrel
                  by_cases hqa : (q : Int) ≤ x.a
                  · obtain ⟨u1, y, ey, hy, hz⟩ := Hq.out q q1 hqa
                    rw [Hn.out] at u1 hy
                    obtain ⟨m, hm⟩ : ∃ m, i + q = m := ⟨_, rfl⟩
                    rw [hm] at u1 ey
                    obtain ⟨xq, hxq⟩ : ∃ xq, C[m]? = some xq := ⟨_, List.getElem?_eq_getElem (by rw [Hn.out]; exact u1)⟩
                    obtain ⟨-, -, m2, -⟩ := HR6.out.at hxq
                    rw [inA_at hxq] at ey
                    rw [ey] at m2
                    have cy := HL6.out y hy
                    have hy' : (y : Int) < (n : Int) := by omega
                    have u1' : (m : Int) < (n : Int) := by omega
                    have fy : (hAt LL y == -1) = false := by simpa using hz
                    have hwm : (i : Int) + (q : Int) = (m : Int) := by omega
                    clear ey hz hxq hm
                    go_wp2_with fail
                    go_roundw
                    case rel => exact ⟨q + 1, by omega, by omega, by go_num, trivial⟩
                    case measure => simp [intOf]; omega
                  · go_wp2_with fail
                    go_roundw
                    case rel => exact ⟨i + 1, by omega, by go_num, HB6⟩
                    case measure => simp [intOf]; omega
              · have g8 : (x.op == 8) = false := by simpa using h8
                have g41 : (x.op == 41) = true := by simp; omega
                clear h8 hun h20
                go_wp2_with fail
                go_loopw [9] (fun x9 wr => ∃ q : Nat, 1 ≤ q ∧ (q : Int) ≤ x.a + 1 ∧ x9 = .int .i64 (q : Int) ∧ w6 = wr) (fun x9 _ => (x.a + 1 - intOf x9).toNat)
                case atStart => exact ⟨1, by omega, by omega, rfl, rfl⟩
                case round =>
                  obtain ⟨q, q1, q2, rfl, rfl⟩ := hrel
                  by_cases hqa : (q : Int) ≤ x.a
                  · obtain ⟨u1, y, ey, hy, hz⟩ := Hq.out q q1 hqa
                    rw [Hn.out] at u1 hy
                    obtain ⟨m, hm⟩ : ∃ m, i + q = m := ⟨_, rfl⟩
                    rw [hm] at u1 ey
                    obtain ⟨xq, hxq⟩ : ∃ xq, C[m]? = some xq := ⟨_, List.getElem?_eq_getElem (by rw [Hn.out]; exact u1)⟩
                    obtain ⟨-, -, m2, -⟩ := HR6.out.at hxq
                    rw [inA_at hxq] at ey
                    rw [ey] at m2
                    have cy := HL6.out y hy
                    have hy' : (y : Int) < (n : Int) := by omega
                    have u1' : (m : Int) < (n : Int) := by omega
                    have fy : (hAt LL y == -1) = false := by simpa using hz
                    have hwm : (i : Int) + (q : Int) = (m : Int) := by omega
                    clear ey hz hxq hm
                    go_wp2_with fail
                    go_roundw
                    case rel => exact ⟨q + 1, by omega, by omega, by go_num, trivial⟩
                    case measure => simp [intOf]; omega
                  · go_wp2_with fail
                    go_roundw
                    case rel => exact ⟨i + 1, by omega, by go_num, HB6⟩
                    case measure => simp [intOf]; omega
            · have g8 : (x.op == 8) = false := by simp; omega
              have g41 : (x.op == 41) = false := by simp; omega
              have h9 := hE.arm
              obtain ⟨d, hd⟩ : ∃ d, tgP x.op = d := ⟨_, rfl⟩
              have HTg := hide_ (targets_any x.op w6)
              rw [hd] at HTg
              have Ht : Hid (d = true → ∃ y : Nat, x.b = (y : Int) ∧ y < n ∧ hAt LL y ≠ -1) := hide_ (fun h => by
                have := hE.tgt h20 h9 (by omega) (by omega) (by rw [hd]; exact h)
                rw [Hn.out] at this
                exact this)
              have Hnx : Hid (x.op ≠ 19 → i + 1 < n ∧ hAt LL (i + 1) ≠ -1) := hide_ (fun h => by
                have := hE.nxt h20 h9 (by omega) (by omega) h
                rw [Hn.out] at this
                exact this)
              clear hE h20 hun h9 hd
              go_wp2_with fail
              refine HTg.out.mono ?_
              rintro e w7 ⟨rfl, rfl⟩
              clear HTg
              cases d
              · by_cases h19 : x.op = 19
                · have g19 : (x.op != 19) = false := by simp [h19]
                  clear h19
                  go_wp2_with fail
                  go_roundw
                  case rel => exact ⟨i + 1, by omega, by go_num, HB6⟩
                  case measure => simp [intOf]; omega
                · have g19 : (x.op != 19) = true := by simpa using h19
                  obtain ⟨u1, u2⟩ := Hnx.out h19
                  have cn := HL6.out (i + 1) u1
                  have u1' : (i : Int) + 1 < (n : Int) := by omega
                  have fn : (hAt LL (i + 1) == -1) = false := by simpa using u2
                  have hwi : wrap64 ((i : Int) + 1) = (i : Int) + 1 := by rw [w64 _ (by omega)]
                  clear h19 u2
                  go_wp2_with fail
                  go_roundw
                  case rel => exact ⟨i + 1, by omega, by go_num, HB6⟩
                  case measure => simp [intOf]; omega
              · obtain ⟨y, ey, hy, hz⟩ := Ht.out rfl
                have cy := HL6.out y hy
                have hy' : (y : Int) < (n : Int) := by omega
                have fy : (hAt LL y == -1) = false := by simpa using hz
                rw [ey] at j2
                clear ey hz
                by_cases h19 : x.op = 19
                · have g19 : (x.op != 19) = false := by simp [h19]
                  clear h19
                  go_wp2_with fail
                  go_roundw
                  case rel => exact ⟨i + 1, by omega, by go_num, HB6⟩
                  case measure => simp [intOf]; omega
                · have g19 : (x.op != 19) = true := by simpa using h19
                  obtain ⟨u1, u2⟩ := Hnx.out h19
                  have cn := HL6.out (i + 1) u1
                  have u1' : (i : Int) + 1 < (n : Int) := by omega
                  have fn : (hAt LL (i + 1) == -1) = false := by simpa using u2
                  have hwi : wrap64 ((i : Int) + 1) = (i : Int) + 1 := by rw [w64 _ (by omega)]
                  clear h19 u2
                  go_wp2_with fail
                  go_roundw
                  case rel => exact ⟨i + 1, by omega, by go_num, HB6⟩
                  case measure => simp [intOf]; omega
          · have hil' : ¬ ((i : Int) < (n : Int)) := by omega
            have HX := hide_ (below_to HB5.out HBi.out)
            go_wp2_with fail
            go_ret
            exact ⟨rfl, HX.out⟩
  · rcases vf_rng HCk.out with h3 | ⟨h3, h4, h5⟩
    · rw [h3] at h1
      exact absurd rfl h1
    obtain ⟨at_, hat⟩ : ∃ at_, (vfP en0 C E).2 = at_ := ⟨_, rfl⟩
    rw [hat] at h4 h5
    rw [h3, hat]
    have HVe : Hid (∀ W, Below w4.heap.size w4 W → Calls Try.prog 14 #[.agg #[.bool en0, .slice ac C.length cc, .slice ae E.length ce]] W fun e w' => e = .returned (.agg #[.int .i64 150, .int .i64 at_]) ∧ Below W.heap.size W w') := hide_ (fun W hB => by
      have := verify_any en0 ac ae cc ce C E W e2 hcap (by omega) f4 (by omega) (hide_ (HR4.out.later hB)) (hide_ (HE4.out.later hB))
      rw [h3, hat] at this
      exact this)
    clear h1 h3 hat
    go_upto_region 5 with fail
    obtain ⟨w5, hw5⟩ : ∃ wx, w4.alloc (.cells #[.int .i64 150, .int .i64 at_] 30) = wx := ⟨_, rfl⟩
    have hB5 : Below w4.heap.size w4 w5 := by rw [← hw5]; exact below1 _ _
    have hK5 : Blk w5 w4.heap.size 30 [.int .i64 150, .int .i64 at_] := by rw [← hw5]; exact Blk.newA _ _ _
    obtain ⟨qf, hqf⟩ : ∃ qf, w4.heap.size = qf := ⟨_, rfl⟩
    try rw [hw5]
    rw [hqf] at hK5 ⊢
    have z0 := hK5.cell 0
    simp at z0
    have HS6 : Hid (∀ W, Below w5.heap.size w5 W → (fun w' => w'.cell? ⟨qf, 0, none⟩ = some (.int .i64 150) ∧ w'.cell? ⟨qf, 1, none⟩ = some (.int .i64 at_) ∧ w'.cell? ⟨qp, 0, none⟩ = some (.bool en0) ∧ w'.cell? ⟨qp, 1, none⟩ = some (.slice ac C.length cc) ∧ w'.cell? ⟨qp, 2, none⟩ = some (.slice ae E.length ce)) W) := hide_ (fun W hB => by
      have k := hK5.later hB
      have k2 := (HK4.out.later hB5).later hB
      exact ⟨by rw [k.cell 0]; rfl, by rw [k.cell 1]; rfl, by rw [k2.cell 0]; rfl, by rw [k2.cell 1]; rfl, by rw [k2.cell 2]; rfl⟩)
    have HB5 := hide_ (below_to HB4.out hB5)
    have HBv := hide_ hB5
    clear hw5 hK5 hqf hB5
    go_wp2_with fail
    clear z0
    refine wp_region_last 22 (fun w' => w'.cell? ⟨qf, 0, none⟩ = some (.int .i64 150) ∧ w'.cell? ⟨qf, 1, none⟩ = some (.int .i64 at_) ∧ w'.cell? ⟨qp, 0, none⟩ = some (.bool en0) ∧ w'.cell? ⟨qp, 1, none⟩ = some (.slice ac C.length cc) ∧ w'.cell? ⟨qp, 2, none⟩ = some (.slice ae E.length ce)) (by kernel_rfl) (HS6.out _ (Below.refl _ _).drew) (fun hHeld => ?_)
    obtain ⟨wz0, hz0⟩ : ∃ wx, w5.drew = wx := ⟨_, rfl⟩
    rw [hz0] at hHeld ⊢
    have HBz0 : Hid (Below w5.heap.size w5 wz0) := hide_ (by rw [← hz0]; exact (Below.refl _ _).drew)
    have hSz0 := hHeld
    clear hz0
    refine wpAnyF_take [22] (by kernel_rfl) (i := 0) (v := ?vp1) rfl (by kernel_rfl) (by kernel_rfl) (by kernel_rfl) (fun _ _ _ h => h) (Or.inl ⟨by kernel_rfl, ?hyp1⟩) hHeld ?restp1
    case hyp1 => intro w' hSw; (try dsimp only at hSw); go_simp; try with_reducible rfl
    simp only [Act.put]
    try dsimp only
    refine wpAnyF_take [22] (by kernel_rfl) (i := 1) (v := ?vp2) rfl (by kernel_rfl) (by kernel_rfl) (by kernel_rfl) (fun _ _ _ h => h) (Or.inl ⟨by kernel_rfl, ?hyp2⟩) hHeld ?restp2
    case hyp2 => intro w' hSw; (try dsimp only at hSw); go_simp; try with_reducible rfl
    simp only [Act.put]
    try dsimp only
    refine wpAnyF_take [22] (by kernel_rfl) (i := 2) (v := ?vp3) rfl (by kernel_rfl) (by kernel_rfl) (by kernel_rfl) (fun _ _ _ h => h) (Or.inl ⟨by kernel_rfl, ?hyp3⟩) hHeld ?restp3
    case hyp3 => intro w' hSw; (try dsimp only at hSw); go_simp; try with_reducible rfl
    simp only [Act.put]
    try dsimp only
    refine wpAnyF_take [22] (by kernel_rfl) (i := 3) (v := ?vp4) rfl (by kernel_rfl) (by kernel_rfl) (by kernel_rfl) (fun _ _ _ h => h) (Or.inl ⟨by kernel_rfl, ?hyp4⟩) hHeld ?restp4
    case hyp4 => intro w' hSw; (try dsimp only at hSw); go_simp; try with_reducible rfl
    simp only [Act.put]
    try dsimp only
    refine wpAnyF_take [22] (by kernel_rfl) (i := 4) (v := ?vp5) rfl (by kernel_rfl) (by kernel_rfl) (by kernel_rfl) (fun _ _ _ h => h) (Or.inl ⟨by kernel_rfl, ?hyp5⟩) hHeld ?restp5
    case hyp5 => intro w' hSw; (try dsimp only at hSw); go_simp; try with_reducible rfl
    simp only [Act.put]
    try dsimp only
    refine wpAnyF_take [22] (by kernel_rfl) (i := 5) (v := ?vp6) rfl (by kernel_rfl) (by kernel_rfl) (by kernel_rfl) (fun _ _ _ h => h) (Or.inl ⟨by kernel_rfl, ?hyp6⟩) hHeld ?restp6
    case hyp6 => intro w' hSw; (try dsimp only at hSw); go_simp; try with_reducible rfl
    simp only [Act.put]
    try dsimp only
    refine wpAnyF_take [22] (by kernel_rfl) (i := 6) (v := ?vp7) rfl (by kernel_rfl) (by kernel_rfl) (by kernel_rfl) (fun _ _ _ h => h) (Or.inl ⟨by kernel_rfl, ?hyp7⟩) hHeld ?restp7
    case hyp7 => intro w' hSw; (try dsimp only at hSw); go_simp; try with_reducible rfl
    simp only [Act.put]
    try dsimp only
    refine wpAnyF_take [22] (by kernel_rfl) (i := 7) (v := ?vp8) rfl (by kernel_rfl) (by kernel_rfl) (by kernel_rfl) (fun _ _ _ h => h) (Or.inl ⟨by kernel_rfl, ?hyp8⟩) hHeld ?restp8
    case hyp8 => intro w' hSw; (try dsimp only at hSw); go_simp; try with_reducible rfl
    simp only [Act.put]
    try dsimp only
    refine wpAnyF_take [22] (by kernel_rfl) (i := 8) (v := ?vp9) rfl (by kernel_rfl) (by kernel_rfl) (by kernel_rfl) (fun _ _ _ h => h) (Or.inl ⟨by kernel_rfl, ?hyp9⟩) hHeld ?restp9
    case hyp9 => intro w' hSw; (try dsimp only at hSw); go_simp; try with_reducible rfl
    simp only [Act.put]
    try dsimp only
    refine wpAnyF_take [22] (by kernel_rfl) (i := 9) (v := ?vp10) rfl (by kernel_rfl) (by kernel_rfl) (by kernel_rfl) (fun _ _ _ h => h) (Or.inl ⟨by kernel_rfl, ?hyp10⟩) hHeld ?restp10
    case hyp10 => intro w' hSw; (try dsimp only at hSw); go_simp; try with_reducible rfl
    simp only [Act.put]
    try dsimp only
    refine wpAnyF_take [22] (by kernel_rfl) (i := 10) (v := ?vp11) rfl (by kernel_rfl) (by kernel_rfl) (by kernel_rfl) (fun _ _ _ h => h) (Or.inl ⟨by kernel_rfl, ?hyp11⟩) hHeld ?restp11
    case hyp11 => intro w' hSw; (try dsimp only at hSw); go_simp; try with_reducible rfl
    simp only [Act.put]
    try dsimp only
    refine wpAnyF_take [22] (by kernel_rfl) (i := 11) (v := ?vp12) rfl (by kernel_rfl) (by kernel_rfl) (by kernel_rfl) (fun _ _ _ h => h) (Or.inl ⟨by kernel_rfl, ?hyp12⟩) hHeld ?restp12
    case hyp12 => intro w' hSw; (try dsimp only at hSw); go_simp; try with_reducible rfl
    simp only [Act.put]
    try dsimp only
    refine wpAnyF_take [22] (by kernel_rfl) (i := 12) (v := ?vp13) rfl (by kernel_rfl) (by kernel_rfl) (by kernel_rfl) (fun _ _ _ h => h) (Or.inl ⟨by kernel_rfl, ?hyp13⟩) hHeld ?restp13
    case hyp13 => intro w' hSw; (try dsimp only at hSw); go_simp; try with_reducible rfl
    simp only [Act.put]
    try dsimp only
    refine wpAnyF_take [22] (by kernel_rfl) (i := 13) (v := ?vp14) rfl (by kernel_rfl) (by kernel_rfl) (by kernel_rfl) (fun _ _ _ h => h) (Or.inl ⟨by kernel_rfl, ?hyp14⟩) hHeld ?restp14
    case hyp14 => intro w' hSw; (try dsimp only at hSw); go_simp; try with_reducible rfl
    simp only [Act.put]
    try dsimp only
    refine wpAnyF_take [22] (by kernel_rfl) (i := 14) (v := ?vp15) rfl (by kernel_rfl) (by kernel_rfl) (by kernel_rfl) (fun _ _ _ h => h) (Or.inl ⟨by kernel_rfl, ?hyp15⟩) hHeld ?restp15
    case hyp15 => intro w' hSw; (try dsimp only at hSw); go_simp; try with_reducible rfl
    simp only [Act.put]
    try dsimp only
    refine wpAnyF_take [22] (by kernel_rfl) (i := 15) (v := ?vp16) rfl (by kernel_rfl) (by kernel_rfl) (by kernel_rfl) (fun _ _ _ h => h) (Or.inl ⟨by kernel_rfl, ?hyp16⟩) hHeld ?restp16
    case hyp16 => intro w' hSw; (try dsimp only at hSw); go_simp; try with_reducible rfl
    simp only [Act.put]
    try dsimp only
    refine wpAnyF_take [22] (by kernel_rfl) (i := 16) (v := ?vp17) rfl (by kernel_rfl) (by kernel_rfl) (by kernel_rfl) (fun _ _ _ h => h) (Or.inl ⟨by kernel_rfl, ?hyp17⟩) hHeld ?restp17
    case hyp17 => intro w' hSw; (try dsimp only at hSw); go_simp; try with_reducible rfl
    simp only [Act.put]
    try dsimp only
    refine wpAnyF_take [22] (by kernel_rfl) (i := 17) (v := ?vp18) rfl (by kernel_rfl) (by kernel_rfl) (by kernel_rfl) (fun _ _ _ h => h) (Or.inl ⟨by kernel_rfl, ?hyp18⟩) hHeld ?restp18
    case hyp18 => intro w' hSw; (try dsimp only at hSw); go_simp; try with_reducible rfl
    simp only [Act.put]
    try dsimp only
    refine wpAnyF_take [22] (by kernel_rfl) (i := 19) (v := ?vp19) rfl (by kernel_rfl) (by kernel_rfl) (by kernel_rfl) (fun _ _ _ h => h) (Or.inl ⟨by kernel_rfl, ?hyp19⟩) hHeld ?restp19
    case hyp19 => intro w' hSw; (try dsimp only at hSw); go_simp; try with_reducible rfl
    simp only [Act.put]
    try dsimp only
    refine wpAnyF_ready (rs := [18]) (by kernel_rfl) (by simp) ?_
    refine AllReadyF.cons rfl (fun K hK => ?_) AllReadyF.nil
    go_simp
    refine (HVe.out wz0 (below_to HBv.out HBz0.out)).mono ?_
    rintro e w6 ⟨rfl, hB6⟩
    have HB6 := hide_ (below_to HBz0.out hB6)
    have hS6 := HS6.out w6 HB6.out
    clear hB6
    go_simp
    refine hK.out _ _ (hS6) (fun hHeld => ?_)
    clear hK K
    refine wpAnyF_take [22] (by kernel_rfl) (i := 20) (v := ?vp20) rfl (by kernel_rfl) (by kernel_rfl) (by kernel_rfl) (fun _ _ _ h => h) (Or.inl ⟨by kernel_rfl, ?hyp20⟩) hHeld ?restp20
    case hyp20 => intro w' hSw; (try dsimp only at hSw); go_simp; try with_reducible rfl
    simp only [Act.put]
    try dsimp only
    refine wpAnyF_take [22] (by kernel_rfl) (i := 21) (v := ?vp21) rfl (by kernel_rfl) (by kernel_rfl) (by kernel_rfl) (fun _ _ _ h => h) (Or.inl ⟨by kernel_rfl, ?hyp21⟩) hHeld ?restp21
    case hyp21 => intro w' hSw; (try dsimp only at hSw); go_simp; try with_reducible rfl
    simp only [Act.put]
    try dsimp only
    refine wpAnyF_ready (rs := [22]) (by kernel_rfl) (by simp) ?_
    refine AllReadyF.last rfl (fun K hK => ?_)
    go_simp
    refine hK.out _ _ ?_
    clear hK K
    refine wpAnyF_done (by kernel_rfl) ?_ _
    have HX := hide_ (below_to HB5.out HB6.out)
    go_wp2_with fail
    go_ret
    exact ⟨rfl, HX.out⟩
end Go.Proofs.Ytnmffeeieclmfaa
