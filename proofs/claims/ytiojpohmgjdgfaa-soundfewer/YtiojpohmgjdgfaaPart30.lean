import Derived.Test.YtiojpohmgjdgfaaPart29
import Derived.Test.YtiojpohmgjdgfaaPart16
import Derived.Test.YtiojpohmgjdgfaaPart17
import Derived.Test.YtiojpohmgjdgfaaPart28

/- sound's laws: made. -/
namespace Go.Proofs.Ytiojpohmgjdgfaa
open Go.RowKit
set_option linter.unusedVariables false
set_option linter.unusedSimpArgs false

theorem COwn.cut1 {w : World} {B g cap : Nat} {C : List In} {x : In} (h : COwn w B (.slice (some ⟨g, 0, none⟩) (C.length + 1) cap) (C ++ [x])) : COwn w B (.slice (some ⟨g, 0, none⟩) C.length cap) C := by
  unfold COwn at h
  rw [List.length_append, List.length_singleton] at h
  obtain ⟨g', cap', ys, e, hb, hn, hm, hl, ht, hK⟩ := ownS_blk h (by omega)
  injection e with e1 e2 e3
  injection e1 with e1
  injection e1 with e1 _ _
  subst e1 e3
  have h9 := ownS_of_blk (n := C.length) (c := 4) hK hb hl (by omega) hm
  have e9 : ys.take (C.length * 4) = cellsG inc C := by
    have e8 : ys.take (C.length * 4) = (ys.take ((C.length + 1) * 4)).take (C.length * 4) := by rw [List.take_take, Nat.min_eq_left (by omega)]
    have hlc : (cellsG inc C).length = C.length * 4 := cellsG_len inc_len C
    rw [e8, ht, cellsG_app, List.take_append_of_le_length (by omega), List.take_of_length_le (by omega)]
  rw [e9] at h9
  exact h9
theorem IOwn.cut1 {w : World} {B g cap : Nat} {E : List Int} {x : Int} (h : IOwn w B (.slice (some ⟨g, 0, none⟩) (E.length + 1) cap) (E ++ [x])) : IOwn w B (.slice (some ⟨g, 0, none⟩) E.length cap) E := by
  have h1 := h.cutV (m := E.length) (by rw [List.length_append, List.length_singleton]) (by omega)
  rw [List.take_left] at h1
  exact h1
/-- What made answers: a program of the call's own that has its form. -/
def Md15 (enc : Bool) (w : World) (e : Ending) (w' : World) : Prop := ∃ C E ac cc ae ce, e = .returned (.agg #[.bool enc, .slice ac C.length cc, .slice ae E.length ce]) ∧ Chk enc C E ∧ 0 < C.length ∧ C.length ≤ 100 ∧ COwn w' w.heap.size (.slice ac C.length cc) C ∧ IOwn w' w.heap.size (.slice ae E.length ce) E ∧ Below w.heap.size w w'
theorem COwn.capM {w : World} {B : Nat} {a : Option Addr} {n c : Nat} {l : List In} (h : COwn w B (.slice a n c) l) : c ≤ 9223372036854775807 := by
  by_cases h0 : 0 < l.length
  · obtain ⟨g', cap', ys, e, hb, hn, hm, -⟩ := ownS_blk h h0
    injection e with _ _ e
    unfold maxLen at hm
    omega
  · rcases h.2 with ⟨e, -⟩ | ⟨g, cap, cur, e, -, -, -, hm, -⟩
    · injection e with _ _ e; omega
    · injection e with _ _ e
      unfold maxLen at hm
      omega
/-- What Made and Lend answer, in one form. -/
def MdQ (enc : Bool) (w : World) (e : Ending) (w' : World) : Prop := ∃ C E ac cc ae ce, e = .returned (.agg #[.bool enc, .slice ac C.length cc, .slice ae E.length ce]) ∧ Hid (Chk enc C E ∧ 0 < C.length ∧ C.length ≤ 100 ∧ COwn w' w.heap.size (.slice ac C.length cc) C ∧ IOwn w' w.heap.size (.slice ae E.length ce) E) ∧ Hid (Below w.heap.size w w')
theorem MadeTo.q {enc : Bool} {most : Nat} {w w' : World} {e : Ending} (hm : most ≤ 99) (h : MadeTo enc most w e w') : MdQ enc w e w' := by
  obtain ⟨vC, vE, C, E, rfl, h1, h2, h3, -, h5, h6, h7⟩ := h
  obtain ⟨ac, cc, rfl, -⟩ := h5.row
  obtain ⟨ae, ce, rfl, -⟩ := h6.row
  exact ⟨C, E, ac, cc, ae, ce, rfl, hide_ ⟨h1, h2, by omega, h5, h6⟩, hide_ h7⟩
theorem LeTo.q {enc : Bool} {C : List In} {E : List Int} {w w' : World} {e : Ending} (hK : Chk enc C E) (h0 : 0 < C.length) (h1 : C.length ≤ 100) (h : LeTo enc C E w e w') : MdQ enc w e w' := by
  obtain ⟨gC, cC, gE, cE, rfl, hL, hB⟩ := h
  exact ⟨C, E, _, _, _, _, rfl, hide_ ⟨hK, h0, h1, hL.out.c.cut1, hL.out.e.cut1⟩, hB⟩
theorem md_fin {fn : Func} {p : Tmp} (hf : fn.results = #[.cell p 25]) {enc : Bool} {w w1 w2 : World} {C : List In} {E : List Int} {ac ae : Option Addr} {cc ce : Nat} {tmps : Array Value} (hB1 : Below w.heap.size w w1) (KF : Blk w2 (w.heap.size + 1) 25 [.bool false, .slice none 0 0, .slice none 0 0]) (hlt : w.heap.size + 1 < w1.heap.size)
    (hp : tmps.getD p undef = .pointer (some ⟨w.heap.size + 1, 0, none⟩)) (h : Chk enc C E ∧ 0 < C.length ∧ C.length ≤ 100 ∧ COwn w2 w1.heap.size (.slice ac C.length cc) C ∧ IOwn w2 w1.heap.size (.slice ae E.length ce) E) (hB2 : Below w1.heap.size w1 w2) :
    bodyPost Try.prog fn (Md15 enc w) Exit.ret ⟨tmps, []⟩ (((w2.setCell ⟨w.heap.size + 1, 0, none⟩ (.bool enc)).setCell ⟨w.heap.size + 1, 1, none⟩ (.slice ac C.length cc)).setCell ⟨w.heap.size + 1, 2, none⟩ (.slice ae E.length ce)) := by
  refine retP hf hp (setP KF _ _ _) ?_
  have hu := upd3 w2 (w.heap.size + 1) (.bool enc) (.slice ac C.length cc) (.slice ae E.length ce)
  refine ⟨C, E, ac, cc, ae, ce, rfl, h.1, h.2.1, h.2.2.1, own_base (ownS_upd h.2.2.2.1 hu (fun k hk e => by have := (World.ownsRow.lt h.2.2.2.1 k hk).1; omega)) hB1.size, own_base (owns_upd h.2.2.2.2 hu (fun k hk e => by have := (h.2.2.2.2.lies hk).1; omega)) hB1.size, below_wr3 (below_to hB1 hB2) (by omega) _ _ _⟩
set_option maxRecDepth 100000 in
set_option maxHeartbeats 16000000 in
theorem made15_any (enc : Bool) (ac ae : Option Addr) (cc ce : Nat) (C : List In) (E : List Int) (w : World) (hCl : C.length ≤ 4398046511104) (hel : E.length ≤ 17592186044415) (hcn : ac = none → cc = 0) (hen : ae = none → ce = 0) (hr : Hid (IRow w ac C)) (he : Hid (Row .i64 w ae E)) :
    Calls Try.prog 6 #[.agg #[.bool enc, .slice ac C.length cc, .slice ae E.length ce]] w (Md15 enc w) := by
  obtain ⟨w1, hw1⟩ : ∃ wx, (w.alloc (.cells #[.bool enc, .slice ac C.length cc, .slice ae E.length ce] 25)).alloc (.cells #[.bool false, .slice none 0 0, .slice none 0 0] 25) = wx := ⟨_, rfl⟩
  have hB1 : Below w.heap.size w w1 := by rw [← hw1]; exact below2 _ _ _
  obtain ⟨kp, kf⟩ := blk2 w #[.bool enc, .slice ac C.length cc, .slice ae E.length ce] #[.bool false, .slice none 0 0, .slice none 0 0] 25 25
  rw [hw1] at kp kf
  have hlt := kf.lt
  have p0 := kp.cell 0; have p1 := kp.cell 1; have p2 := kp.cell 2
  simp at p0 p1 p2
  have KP := hide_ kp
  have KF := hide_ kf
  have HB1 := hide_ hB1
  have Hlt := hide_ hlt
  have HMd : Hid (∀ w', Below w1.heap.size w1 w' → Calls Try.prog 13 #[.agg #[.bool enc, .slice ac C.length cc, .slice ae E.length ce], .int .i64 60] w' (MdQ enc w')) := hide_ (fun w' hB => by
    have h1 := below_to hB1 hB
    exact (rmade_any enc ac ae cc ce C E 60 w' (by omega) hCl hel hcn hen (hide_ (hr.out.later h1)) (hide_ (he.out.later h1))).mono (fun e w2 h => h.q (by omega)))
  clear kp kf hB1 hlt
  by_cases h1 : C.length < 1
  · have h1' : (C.length : Int) < 1 := by omega
    go_enter Try.func6, Try.ntmps6
    go_upto_region 1 with fail
    try rw [hw1]
    clear hw1
    go_wp2_with fail
    refine (HMd.out w1 (Below.refl _ _)).mono ?_
    rintro e w2 ⟨C2, E2, a2, c2, b2, d2, rfl, HQ, HB2⟩
    have KF2 := hide_ (KF.out.later HB2.out)
    have z0 := KF2.out.cell 0; have z1 := KF2.out.cell 1; have z2 := KF2.out.cell 2
    have zf := fun i => KF2.out.frozen i
    simp at z0 z1 z2
    go_wp2_with fail
    exact md_fin rfl HB1.out KF2.out Hlt.out rfl HQ.out HB2.out
  have h1' : ¬ (C.length : Int) < 1 := by omega
  by_cases h2 : 100 < C.length
  · have h2' : (100 : Int) < C.length := by omega
    go_enter Try.func6, Try.ntmps6
    go_upto_region 1 with fail
    try rw [hw1]
    clear hw1
    go_wp2_with fail
    refine (HMd.out w1 (Below.refl _ _)).mono ?_
    rintro e w2 ⟨C2, E2, a2, c2, b2, d2, rfl, HQ, HB2⟩
    have KF2 := hide_ (KF.out.later HB2.out)
    have z0 := KF2.out.cell 0; have z1 := KF2.out.cell 1; have z2 := KF2.out.cell 2
    have zf := fun i => KF2.out.frozen i
    simp at z0 z1 z2
    go_wp2_with fail
    exact md_fin rfl HB1.out KF2.out Hlt.out rfl HQ.out HB2.out
  have h2' : ¬ (100 : Int) < C.length := by omega
  by_cases h3 : 20 < E.length
  · have h3' : (20 : Int) < E.length := by omega
    go_enter Try.func6, Try.ntmps6
    go_upto_region 1 with fail
    try rw [hw1]
    clear hw1
    go_wp2_with fail
    refine (HMd.out w1 (Below.refl _ _)).mono ?_
    rintro e w2 ⟨C2, E2, a2, c2, b2, d2, rfl, HQ, HB2⟩
    have KF2 := hide_ (KF.out.later HB2.out)
    have z0 := KF2.out.cell 0; have z1 := KF2.out.cell 1; have z2 := KF2.out.cell 2
    have zf := fun i => KF2.out.frozen i
    simp at z0 z1 z2
    go_wp2_with fail
    exact md_fin rfl HB1.out KF2.out Hlt.out rfl HQ.out HB2.out
  have h3' : ¬ (20 : Int) < E.length := by omega
  obtain ⟨K, hK⟩ : ∃ K, chk enc C E = K := ⟨_, rfl⟩
  have HCk := hide_ (rcheck_any enc ac ae cc ce C E w1 (by omega) (by omega) (hide_ (hr.out.later HB1.out)) (hide_ (he.out.later HB1.out)))
  rw [hK] at HCk
  go_enter Try.func6, Try.ntmps6
  go_upto_region 1 with fail
  try rw [hw1]
  clear hw1
  go_wp2_with fail
  refine HCk.out.mono ?_
  rintro e w3 ⟨rfl, hB3⟩
  have KP3 := hide_ (KP.out.later hB3)
  have KF3 := hide_ (KF.out.later hB3)
  have HB3 := hide_ hB3
  clear p0 p1 p2 HCk hB3
  have p0 := KP3.out.cell 0; have p1 := KP3.out.cell 1; have p2 := KP3.out.cell 2
  simp at p0 p1 p2
  have hfl := fld0 (.int .i64 K.1) (.int .i64 K.2) w3
  by_cases h0 : K.1 = 0
  · have f0 : (K.1 == 0) = true := by simpa using h0
    have HLe : Hid (Calls Try.prog 14 #[.agg #[.bool enc, .slice ac C.length cc, .slice ae E.length ce]] w3 (MdQ enc w3)) := hide_ (by
      have h5 := below_to HB1.out HB3.out
      have hKk : Chk enc C E := chk_ok.1 (chk_zero (by rw [hK]; exact h0))
      exact (lend_any enc ac ae cc ce C E w3 (by omega) (by omega) hcn hen (hide_ (hr.out.later h5)) (hide_ (he.out.later h5))).mono (fun e w2 h => h.q hKk (by omega) (by omega)))
    clear h0
    go_wp2_with fail
    refine HLe.out.mono ?_
    rintro e w2 ⟨C2, E2, a2, c2, b2, d2, rfl, HQ, HB2⟩
    have KF2 := hide_ (KF3.out.later HB2.out)
    have z0 := KF2.out.cell 0; have z1 := KF2.out.cell 1; have z2 := KF2.out.cell 2
    have zf := fun i => KF2.out.frozen i
    simp at z0 z1 z2
    go_wp2_with fail
    exact md_fin rfl (below_to HB1.out HB3.out) KF2.out (Nat.lt_of_lt_of_le Hlt.out HB3.out.size) rfl HQ.out HB2.out
  · have f0 : (K.1 == 0) = false := by simpa using h0
    clear h0
    go_wp2_with fail
    refine (HMd.out w3 HB3.out).mono ?_
    rintro e w2 ⟨C2, E2, a2, c2, b2, d2, rfl, HQ, HB2⟩
    have KF2 := hide_ (KF3.out.later HB2.out)
    have z0 := KF2.out.cell 0; have z1 := KF2.out.cell 1; have z2 := KF2.out.cell 2
    have zf := fun i => KF2.out.frozen i
    simp at z0 z1 z2
    go_wp2_with fail
    exact md_fin rfl (below_to HB1.out HB3.out) KF2.out (Nat.lt_of_lt_of_le Hlt.out HB3.out.size) rfl HQ.out HB2.out
end Go.Proofs.Ytiojpohmgjdgfaa

/- SoundEnds: the walk. -/
namespace Go.Proofs.Ytiojpohmgjdgfaa
open Go.RowKit
set_option linter.unusedVariables false
set_option linter.unusedSimpArgs false

theorem shp_came {enc : Bool} {s : St} (hs : SOk s) (h : s.pl ≠ 0) : mShp enc s ≠ -1 := by
  have h1 := hs.le
  have h2 := ocI_in (s.ki : Int)
  unfold mShp eShp dShp
  repeat' split
  all_goals omega
theorem shp_not {enc : Bool} {s : St} (h : s.pl = 0) : mShp enc s = -1 := by
  unfold mShp eShp dShp
  split
  · simp [h]
  · simp [h]
theorem ret_shp {enc : Bool} {s : St} {x : In} {r : Int} (hs : SOk s) (ho : x.op = 20) (h : mSt enc s x r = true) : mShp enc s ≠ 0 := by
  have h2 := ocI_in (s.ki : Int)
  unfold mSt at h
  split at h
  · rename_i he
    unfold eSt at h
    rw [if_neg (by omega), if_neg (by omega), if_neg (by omega), if_neg (by omega), if_neg (by omega), if_neg (by omega), if_pos ho] at h
    have e := (stEq_iff _ _).1 h
    rw [e, he]
    decide
  · rename_i he
    unfold dSt at h
    rw [if_neg (by omega), if_neg (by omega), if_neg (by omega), if_neg (by omega), if_neg (by omega), if_neg (by omega), if_neg (by omega), if_neg (by omega), if_neg (by omega), if_neg (by omega), if_pos ho] at h
    have hp : s.pl ≠ 2 ∧ s.pl ≠ 0 := by
      unfold wholeP at h
      split at h
      · omega
      split at h
      · omega
      · cases h
    unfold mShp dShp
    rw [if_neg he, if_neg hp.2, if_neg hp.1]
    split <;> omega
theorem arm_no {enc : Bool} {s : St} {x : In} {r : Int} (ho : x.op = 9) : mSt enc s x r = false := by
  unfold mSt
  split
  · unfold eSt
    rw [if_neg (by omega), if_neg (by omega), if_neg (by omega), if_neg (by omega), if_neg (by omega), if_neg (by omega), if_neg (by omega)]
    simp [ho]
  · unfold dSt
    rw [if_neg (by omega), if_neg (by omega), if_neg (by omega), if_neg (by omega), if_neg (by omega), if_neg (by omega), if_neg (by omega), if_neg (by omega), if_neg (by omega), if_neg (by omega), if_neg (by omega)]
    simp [ho]
def tgP (op : Int) : Bool := decide (op = 7 ∨ op = 9 ∨ op = 11 ∨ op = 12 ∨ op = 13 ∨ op = 14 ∨ op = 15 ∨ op = 19 ∨ op = 40 ∨ op = 47)
/-- What SoundEnds asks of each instruction. -/
structure EndI (enc : Bool) (C : List In) (L : List Int) (i : Nat) (x : In) : Prop where
  ret : x.op = 20 → hAt L i ≠ 0
  arm : x.op ≠ 9
  un : x.op = 8 ∨ x.op = 41 → (1 ≤ x.a ∧ x.a ≤ 64) ∧ ∀ q : Nat, 1 ≤ q → (q : Int) ≤ x.a → i + q < C.length ∧ ∃ y : Nat, (inA C (i + q)).b = (y : Int) ∧ y < C.length ∧ hAt L y ≠ -1
  tgt : x.op ≠ 20 → x.op ≠ 9 → x.op ≠ 8 → x.op ≠ 41 → tgP x.op = true → ∃ y : Nat, x.b = (y : Int) ∧ y < C.length ∧ hAt L y ≠ -1
  nxt : x.op ≠ 20 → x.op ≠ 9 → x.op ≠ 8 → x.op ≠ 41 → x.op ≠ 19 → i + 1 < C.length ∧ hAt L (i + 1) ≠ -1
theorem shP_at {enc : Bool} {C : List In} {E : List Int} {k : Nat} (hk : k < (stP enc C E).length) : hAt (shP enc C E) k = mShp enc (stA (stP enc C E) k) := by
  unfold hAt shP stA
  simp [List.getD, hk]
theorem vf_first {enc : Bool} {C : List In} {E : List Int} (hK : Chk enc C E) (h : (vfP enc C E).1 = 0) : (firstP enc C E 0 (List.replicate C.length st0)).1 = 1048576 := by
  unfold vfP at h
  have hc : (chk enc C E).1 = 0 := by rw [chk_ok.2 hK]
  rw [if_neg (fun h => h hc)] at h
  by_cases h1 : (firstP enc C E 0 (List.replicate C.length st0)).1 = 1048576
  · exact h1
  · rw [if_pos h1] at h
    cases h
theorem ends_ok {enc : Bool} {C : List In} {E : List Int} (hK : Chk enc C E) (h : (vfP enc C E).1 = 0) : (∀ i, i < E.length → ∃ y : Nat, E.getD i 0 = (y : Int) ∧ y < C.length ∧ hAt (shP enc C E) y ≠ -1) ∧ ∀ i, i < C.length → hAt (shP enc C E) i ≠ -1 → EndI enc C (shP enc C E) i (inA C i) := by
  have h1 := vf_first hK h
  obtain ⟨a1, a2, a3, a4⟩ := firstP_all hK h1
  have hst := taken_std hK h1
  have hsh : ∀ y : Int, 0 ≤ y → y < (C.length : Int) → cameP (stP enc C E) y.toNat = true → ∃ z : Nat, y = (z : Int) ∧ z < C.length ∧ hAt (shP enc C E) z ≠ -1 := fun y y0 y1 hc => by
    refine ⟨y.toNat, by omega, by omega, ?_⟩
    rw [shP_at (by rw [a2]; omega)]
    exact shp_came (a1 _) (by unfold cameP at hc; simpa using hc)
  refine ⟨fun i hi => ?_, fun i hi hl => ?_⟩
  · have e1 := hK.ent i hi
    have e2 : E.getD i 0 ∈ E := by
      have e : E.getD i 0 = E[i] := by simp [List.getD, hi]
      rw [e]
      exact List.getElem_mem hi
    exact hsh _ e1.1 e1.2 (a4 _ e2)
  · have hc : cameP (stP enc C E) i = true := by
      rw [shP_at (by rw [a2]; exact hi)] at hl
      unfold cameP
      by_cases hp : (stA (stP enc C E) i).pl = 0
      · exact absurd (shp_not hp) hl
      · simpa using hp
    obtain ⟨r, hr⟩ := hst i hi hc
    obtain ⟨hin, hcl⟩ := a3 i hi hc
    have hw : ∀ y ∈ waysP C i, ∃ z : Nat, y = (z : Int) ∧ z < C.length ∧ hAt (shP enc C E) z ≠ -1 := fun y hy => hsh y (hin y hy).1 (hin y hy).2 (hcl y hy)
    refine ⟨fun ho => ?_, fun ho => ?_, fun ho => ?_, fun h20 h9 h8 h41 ht => ?_, fun h20 h9 h8 h41 h19 => ?_⟩
    · rw [shP_at (by rw [a2]; exact hi)]
      exact ret_shp (a1 i) ho hr
    · rw [arm_no ho] at hr
      cases hr
    · have ha := hK.cdok.arm i hi ho
      refine ⟨⟨ha.1, ha.2.1⟩, fun q q1 q2 => ⟨by omega, ?_⟩⟩
      refine hw _ ?_
      unfold waysP
      rw [if_neg (by omega), if_neg (by omega), if_pos ho]
      refine List.mem_map.2 ⟨q - 1, List.mem_range.2 (by omega), ?_⟩
      rw [show i + 1 + (q - 1) = i + q by omega]
    · refine hw _ ?_
      unfold tgP at ht
      have ht := of_decide_eq_true ht
      unfold waysP
      by_cases h19 : (inA C i).op = 19
      · rw [if_pos h19]; simp
      · rw [if_neg h19, if_neg h20, if_neg (by omega), if_pos (by omega)]
        simp
    · have hm : (i : Int) + 1 ∈ waysP C i := by
        unfold waysP
        rw [if_neg h19, if_neg h20, if_neg (by omega)]
        split <;> simp
      obtain ⟨z, z1, z2, z3⟩ := hw _ hm
      have e : z = i + 1 := by omega
      rw [e] at z2 z3
      exact ⟨z2, z3⟩
set_option maxRecDepth 100000 in
set_option maxHeartbeats 16000000 in
theorem targets_any (op : Int) (w : World) : Calls Try.prog 18 #[.int .i64 op] w fun e w' => e = .returned (.bool (tgP op)) ∧ w = w' := by
  obtain ⟨d, hd⟩ : ∃ d, tgP op = d := ⟨_, rfl⟩
  rw [hd]
  unfold tgP at hd
  have Hd := hide_ hd
  clear hd
  cases d
  · have h := of_decide_eq_false Hd.out
    have f1 : (op == 7) = false := by simp; omega
    have f2 : (op == 9) = false := by simp; omega
    have f3 : (op == 11) = false := by simp; omega
    have f4 : (op == 12) = false := by simp; omega
    have f5 : (op == 13) = false := by simp; omega
    have f6 : (op == 14) = false := by simp; omega
    have f7 : (op == 15) = false := by simp; omega
    have f8 : (op == 19) = false := by simp; omega
    have f9 : (op == 40) = false := by simp; omega
    have f10 : (op == 47) = false := by simp; omega
    clear h
    go_enter Try.func18, Try.ntmps18
    go_wp2
    go_ret
    exact ⟨rfl, rfl⟩
  · have h := of_decide_eq_true Hd.out
    have H := hide_ h
    clear h Hd
    go_enter Try.func18, Try.ntmps18
    rcases H.out with rfl | rfl | rfl | rfl | rfl | rfl | rfl | rfl | rfl | rfl <;> (clear H; go_wp2; go_ret; exact ⟨rfl, rfl⟩)
end Go.Proofs.Ytiojpohmgjdgfaa

/- sound, plain: Verify, said without its order; fewer types. -/
namespace Go.Proofs.Ytiojpohmgjdgfaa
open Go.RowKit
set_option linter.unusedVariables false
set_option linter.unusedSimpArgs false

/-- What is handed a state. -/
def Hs (enc : Bool) (C : List In) (E : List Int) (k : Nat) : Prop := ∃ r s, r < E.length ∧ Hd enc C (E.getD r 0) k s
theorem came_iff {S : List St} {k : Nat} : cameP S k = true ↔ (stA S k).pl ≠ 0 := by
  unfold cameP
  simp
theorem Chk.sec {enc : Bool} {C : List In} {E : List Int} (hK : Chk enc C E) (h : (firstP enc C E 0 (List.replicate C.length st0)).1 = 1048576) : SlH C E (stP enc C E) ∧ cmP (stP enc C E) = Hs enc C E := by
  have hE : ∀ i, i < E.length → 0 ≤ E.getD i 0 ∧ E.getD i 0 < (C.length : Int) := hK.ent
  obtain ⟨f1, f2⟩ := first_sem (enc := enc) hK.win hK.nc hE
  obtain ⟨g1, g2, g3⟩ := f2 h
  obtain ⟨-, a1, a2, a3⟩ := firstP_all hK h
  have hM : ∀ k, cmP (stP enc C E) k ↔ Hs enc C E k := fun k => by
    unfold cmP
    rw [came_iff]
    constructor
    · intro hk
      obtain ⟨q, b1, b2⟩ := g2 k hk
      exact ⟨q, _, b1, b2⟩
    · rintro ⟨q, s, b1, b2⟩
      exact g3 q k s b1 b2
  refine ⟨⟨hK.nc, a1, fun k hk hc => ⟨(a2 k hk hc).1, (a2 k hk hc).2⟩, fun k hk hc h16 => ?_, fun e he => ?_, fun k hk => ?_⟩, funext fun k => propext (hM k)⟩
  · have h1 := hK.ceok.cal k hk h16
    unfold enA
    exact hE _ (by omega)
  · obtain ⟨i, hi, rfl⟩ := List.mem_iff_getElem.1 he
    have h1 := hE i hi
    rw [show E.getD i 0 = E[i] by simp [List.getD, hi]] at h1
    exact ⟨h1.1, h1.2, a3 _ he⟩
  · obtain ⟨q, s, hq, hd⟩ := (hM k).1 hk
    have h1 := hE q hq
    refine ⟨E.getD q 0, ?_, ?_⟩
    · rw [show E.getD q 0 = E[q] by simp [List.getD, hq]]
      exact List.getElem_mem hq
    · have hc0 : cameP (stP enc C E) (E.getD q 0).toNat = true := (hM _).2 ⟨q, mBg enc, hq, Wy.refl _ _⟩
      refine Wy.map (T := eR (edW C (stP enc C E))) Prod.fst (Q := fun p : Nat × St => p.1 < C.length ∧ cameP (stP enc C E) p.1 = true) (fun p r hp hpr => ?_) (fun p r hp hpr => ?_) hd ⟨by show (E.getD q 0).toNat < C.length; omega, hc0⟩
      · obtain ⟨w, y, hw, e⟩ := hpr
        have hy := List.mem_of_getElem? hw
        have h5 := a2 p.1 hp.1 hp.2
        have h6 := h5.1 y hy
        rw [e]
        exact ⟨by show y.toNat < C.length; omega, h5.2 y hy⟩
      · obtain ⟨w, y, hw, e⟩ := hpr
        have hy := List.mem_of_getElem? hw
        have h5 := a2 p.1 hp.1 hp.2
        rw [e]
        refine Wy.one (eR_of (n := C.length) ?_ ?_)
        · unfold edW
          rw [if_pos hp.2]
          exact h5.1
        · unfold edW
          rw [if_pos hp.2]
          exact hy
/-- VERIFY, said without its order. -/
theorem vf_sem {enc : Bool} {C : List In} {E : List Int} (hK : Chk enc C E) : ((vfP enc C E).1 = 0 ↔ FsOk enc C E ∧ Sec C E (Hs enc C E)) ∧ ((vfP enc C E).1 = 0 → ∀ k, (stA (stP enc C E) k).pl ≠ 0 ↔ Hs enc C E k) := by
  have hE : ∀ i, i < E.length → 0 ≤ E.getD i 0 ∧ E.getD i 0 < (C.length : Int) := hK.ent
  obtain ⟨f1, f2⟩ := first_sem (enc := enc) hK.win hK.nc hE
  unfold vfP
  rw [chk_ok.2 hK, if_neg (by simp)]
  by_cases hz : (firstP enc C E 0 (List.replicate C.length st0)).1 = 1048576
  · rw [if_neg (by simpa using hz)]
    obtain ⟨s1, s2⟩ := hK.sec hz
    have s3 := second_sem s1
    rw [s2] at s3
    have hF := f1.1 hz
    refine ⟨?_, fun _ k => ?_⟩
    · by_cases h2 : secondP C E (stP enc C E) = 1048576
      · rw [if_neg (by simpa using h2)]
        exact ⟨fun _ => ⟨hF, s3.1 h2⟩, fun _ => rfl⟩
      · rw [if_pos h2]
        exact ⟨fun h => by simp at h, fun h => absurd (s3.2 h.2) h2⟩
    · rw [← came_iff]
      have := congrFun s2 k
      unfold cmP at this
      rw [this]
  · rw [if_pos hz]
    exact ⟨⟨fun h => by simp at h, fun h => absurd (f1.2 h.1) hz⟩, fun h => by simp at h⟩
/-- What is looked at is less: still nothing is at fault. -/
theorem Sec.sub {C : List In} {E E' : List Int} {M M' : Nat → Prop} (h : Sec C E M) (hM : ∀ k, M' k → M k) (hW : ∀ k, M' k → ∀ y ∈ waysP C k, M' y.toNat) (hC : ∀ k, M' k → (inA C k).op = 16 → enA E' (inA C k).c = enA E (inA C k).c ∧ M' (enA E (inA C k).c).toNat) (hE : ∀ e ∈ E', e ∈ E) : Sec C E' M' := by
  have hq : ∀ k, Qt C E' M' k → Qt C E M k := fun k hk => by
    refine hk (fun k => Qt C E M k) (fun j hj hs => Qt.intro (hM j hj) ?_)
    rcases hs with h1 | ⟨y, h1, h2⟩
    · exact .inl h1
    · refine .inr ⟨y, ?_, h2⟩
      rcases h1 with h1 | ⟨h1, h3⟩
      · exact .inl h1
      · refine .inr ⟨h1, ?_⟩
        rcases h3 with h3 | ⟨h3, h4, h5⟩
        · exact .inl h3
        · exact .inr ⟨h3, by rw [← (hC j hj h3).1]; exact h4, h5⟩
  have hb : ∀ a b, beR C E' M' a b → beR C E M a b := fun a b hab => by
    refine ⟨hM a hab.1, ?_⟩
    rcases hab.2 with h3 | ⟨h3, h4, h5⟩
    · exact .inl h3
    · exact .inr ⟨h3, by rw [← (hC a hab.1 h3).1]; exact hq _ h4, h5⟩
  have hi : ∀ k, idR C E' M' k → idR C E M k := fun k hk => ⟨hk.1, hM k hk.2.1, by rw [← (hC k hk.2.1 hk.1).1]; exact hq _ hk.2.2⟩
  exact ⟨fun k hk hr => h.ring k (hM k hk) (hr.mono hb), fun e he j hj hij => h.ent e (hE e he) j (hj.mono hb) (hi j hij), fun x hx j hj hij => h.beh x (hi x hx) j (hj.mono hb) (hi j hij)⟩
theorem fs_ways {enc : Bool} {C : List In} {E : List Int} {k : Nat} (h : Hs enc C E k) : ∀ y ∈ waysP C k, Hs enc C E y.toNat := fun y hy => by
  obtain ⟨r, s, hr, hd⟩ := h
  obtain ⟨w, hw⟩ := List.mem_iff_getElem?.1 hy
  exact ⟨r, _, hr, hd.step hw⟩
theorem call_st {enc : Bool} {s : St} {x : In} {r : Int} (ho : x.op = 16) (h : mSt enc s x r = true) : x.c < r := by
  unfold mSt at h
  cases enc
  · simp only [Bool.false_eq_true, if_false] at h
    unfold dSt at h
    rw [if_neg (by omega), if_pos ho] at h
    by_cases hc : r ≤ x.c
    · rw [if_pos hc] at h; cases h
    · omega
  · simp only [if_true] at h
    unfold eSt at h
    rw [if_neg (by omega), if_neg (by omega), if_neg (by omega), if_neg (by omega), if_neg (by omega), if_neg (by omega), if_neg (by omega)] at h
    have := of_decide_eq_true h
    omega
/-- Fewer types. -/
theorem few_ok {enc : Bool} {C : List In} {E : List Int} (hK : Chk enc C E) (h : (vfP enc C E).1 = 0) (m : Nat) : ((vfP enc C (E.take m)).1 = 0 ∧ ∀ k, (stA (stP enc C (E.take m)) k).pl ≠ 0 → (stA (stP enc C E) k).pl ≠ 0) ∨ (vfP enc C (E.take m)).1 = 140 := by
  obtain ⟨v1, v2⟩ := vf_sem hK
  obtain ⟨hF, hS⟩ := v1.1 h
  have hlen : ∀ r, r < (E.take m).length → r < E.length ∧ r < m ∧ (E.take m).getD r 0 = E.getD r 0 := fun r hr => by
    rw [List.length_take] at hr
    refine ⟨by omega, by omega, ?_⟩
    simp [List.getD, List.getElem?_take, show r < m by omega]
  have hsub : ∀ k, Hs enc C (E.take m) k → Hs enc C E k := fun k ⟨r, s, hr, hd⟩ => by
    obtain ⟨a, -, c⟩ := hlen r hr
    rw [c] at hd
    exact ⟨r, s, a, hd⟩
  by_cases hK' : Chk enc C (E.take m)
  · left
    obtain ⟨u1, u2⟩ := vf_sem hK'
    have hF' : FsOk enc C (E.take m) := ⟨fun r k s hr hd => by
      obtain ⟨a, -, c⟩ := hlen r hr
      rw [c] at hd
      exact hF.st r k s a hd, fun q r k s t hq hr hs ht => by
      obtain ⟨a, -, c⟩ := hlen r hr
      obtain ⟨a2, -, c2⟩ := hlen q hq
      rw [c] at ht
      rw [c2] at hs
      exact hF.sm q r k s t a2 a hs ht⟩
    have hz : (vfP enc C (E.take m)).1 = 0 := u1.2 ⟨hF', hS.sub hsub (fun k hk => fs_ways hk) (fun k hk h16 => by
      obtain ⟨r, s, hr, hd⟩ := hk
      have h1 := call_st h16 (hF'.st r k s hr hd).1
      have hkl : k < C.length := by
        by_cases hkl : k < C.length
        · exact hkl
        · exfalso
          unfold inA at h16
          rw [show C.getD k ⟨0, 0, 0, 0⟩ = ⟨0, 0, 0, 0⟩ by simp [List.getD, List.getElem?_eq_none (by omega : C.length ≤ k)]] at h16
          simp at h16
      have h2 := hK'.ceok.cal k hkl h16
      obtain ⟨a, b, c⟩ := hlen (inA C k).c.toNat (by omega)
      refine ⟨by unfold enA; exact c, ⟨(inA C k).c.toNat, mBg enc, by omega, ?_⟩⟩
      rw [c]
      unfold enA
      exact Wy.refl _ _) (fun e he => List.mem_of_mem_take he)⟩
    refine ⟨hz, fun k hk => ?_⟩
    exact (v2 h k).2 (hsub k ((u2 hz k).1 hk))
  · right
    unfold vfP
    have h4 : (chk enc C (E.take m)).1 = 140 := by
      have h0 : chk enc C (E.take m) ≠ (0, 0) := fun e => hK' (chk_ok.1 e)
      revert h0
      unfold chk
      have := hK.nc
      have := hK.ne
      rw [if_neg (by rw [List.length_take]; omega)]
      cases fst0 (frm enc C (E.take m).length) C.length with
      | some i => exact fun _ => rfl
      | none =>
        have h5 : fst0 (entOk C.length (E.take m)) (E.take m).length = none := by
          rw [fst0_none]
          intro i hi
          obtain ⟨a, -, c⟩ := hlen i hi
          rw [ent_iff, c]
          exact hK.ent i a
        intro h0
        simp only [h5] at h0
        exact absurd rfl h0
    rw [if_pos (by rw [h4]; decide)]
    exact h4
theorem few_shp {enc : Bool} {C : List In} {E : List Int} (hK : Chk enc C E) (h : (vfP enc C E).1 = 0) (m : Nat) (h0 : (vfP enc C (E.take m)).1 = 0) : ∀ i, i < C.length → hAt (shP enc C (E.take m)) i ≠ -1 → hAt (shP enc C E) i ≠ -1 := fun i hi hq => by
  rcases few_ok hK h m with ⟨-, h1⟩ | h1
  · have hK' : Chk enc C (E.take m) := by
      rw [← chk_ok]
      unfold vfP at h0
      by_cases hc : (chk enc C (E.take m)).1 ≠ 0
      · rw [if_pos hc] at h0; exact absurd h0 hc
      · exact chk_zero (by simpa using hc)
    have hA := firstP_all hK (vf_first hK h)
    have hA' := firstP_all hK' (vf_first hK' h0)
    rw [shP_at (by rw [hA'.2.1]; exact hi)] at hq
    rw [shP_at (by rw [hA.2.1]; exact hi)]
    refine shp_came (hA.1 i) (h1 i (fun e => hq ?_))
    exact shp_not e
  · rw [h0] at h1
    cases h1
end Go.Proofs.Ytiojpohmgjdgfaa

/- SoundFewer: the walk. -/
namespace Go.Proofs.Ytiojpohmgjdgfaa
open Go.RowKit
set_option linter.unusedVariables false
set_option linter.unusedSimpArgs false

theorem tmod_few (n m : Int) (hm : 0 < m) : -m < n.tmod m ∧ n.tmod m < m := by
  by_cases h : 0 ≤ n
  · have := Int.tmod_nonneg m h
    have := Int.tmod_lt_of_pos n hm
    omega
  · have h2 : n.tmod m = -((-n).tmod m) := by rw [Int.neg_tmod, Int.neg_neg]
    have h3 := Int.tmod_lt_of_pos (-n) hm
    have h4 := Int.tmod_nonneg m (show 0 ≤ -n by omega)
    omega
theorem Row.takeF {w : World} {a : Option Addr} {E : List Int} (h : Row .i64 w a E) (m : Nat) : Row .i64 w a (E.take m) := by
  rcases h with ⟨rfl, rfl⟩ | ⟨x, rfl, hc⟩
  · exact .inl ⟨rfl, by simp⟩
  · refine .inr ⟨x, rfl, fun i hi => ?_⟩
    rw [List.length_take] at hi
    rw [hc i (by omega)]
    simp [List.getD, List.getElem?_take, show i < m by omega]
set_option maxRecDepth 100000 in
set_option maxHeartbeats 16000000 in
theorem sfewer_any (en0 : Bool) (a0 b0 : Option Addr) (c0 d0 : Nat) (P0 : List In) (E0 : List Int) (many : Int) (w : World) (hmin : -9223372036854775808 ≤ many) (hmax : many ≤ 9223372036854775807) (hP1 : P0.length ≤ 4398046511104) (hE1 : E0.length ≤ 17592186044415) (n1 : a0 = none → c0 = 0) (m1 : b0 = none → d0 = 0) (r1 : Hid (IRow w a0 P0)) (s1 : Hid (Row .i64 w b0 E0)) :
    Calls Try.prog 3 #[.agg #[.bool en0, .slice a0 P0.length c0, .slice b0 E0.length d0], .int .i64 many] w fun e w' => e = .returned (.bool true) ∧ Below w.heap.size w w' := by
  obtain ⟨w0, hw0⟩ : ∃ w0, w.alloc (.cells #[.bool en0, .slice a0 P0.length c0, .slice b0 E0.length d0] 25) = w0 := ⟨_, rfl⟩
  have hB0 : Below w.heap.size w w0 := by rw [← hw0]; exact below1 _ _
  have hK0 : Blk w0 w.heap.size 25 [.bool en0, .slice a0 P0.length c0, .slice b0 E0.length d0] := by rw [← hw0]; exact Blk.newA _ _ _
  have HK0 := hide_ hK0
  have HB0 := hide_ hB0
  have HM1 : Hid (∀ w', Below w.heap.size w w' → Calls Try.prog 6 #[.agg #[.bool en0, .slice a0 P0.length c0, .slice b0 E0.length d0]] w' (Md15 en0 w')) := hide_ (fun w' hB => made15_any en0 a0 b0 c0 d0 P0 E0 w' hP1 hE1 n1 m1 (hide_ (r1.out.later hB)) (hide_ (s1.out.later hB)))
  clear r1 s1 n1 m1 hB0 hK0
  go_enter Try.func3, Try.ntmps3
  go_upto_region 1 with fail
  try rw [hw0]
  clear hw0
  go_wp2_with fail
  refine (first15_any w0).mono ?_
  rintro e w1 ⟨rfl, hB1⟩
  have HB1 := hide_ (below_to HB0.out hB1)
  have K1 := HK0.out.later hB1
  have p0 := K1.cell 0; have p1 := K1.cell 1; have p2 := K1.cell 2
  simp at p0 p1 p2
  have HMa := hide_ (HM1.out w1 HB1.out)
  clear hB1 HB0 HK0 K1
  go_wp2_with fail
  refine HMa.out.mono ?_
  rintro e w2 hT2
  obtain ⟨C, E, ac, cc, ae, ce, rfl, hCk, hn0, hn1, hCo, hEo, hB2⟩ := hT2
  clear HMa p0 p1 p2
  go_upto_region 4 with fail
  obtain ⟨w3, hw3⟩ : ∃ wx, w2.alloc (.cells #[.bool en0, .slice ac C.length cc, .slice ae E.length ce] 25) = wx := ⟨_, rfl⟩
  have hB3 : Below w2.heap.size w2 w3 := by rw [← hw3]; exact below1 _ _
  have hK3 : Blk w3 w2.heap.size 25 [.bool en0, .slice ac C.length cc, .slice ae E.length ce] := by rw [← hw3]; exact Blk.newA _ _ _
  obtain ⟨qp, hqp⟩ : ∃ qp, w2.heap.size = qp := ⟨_, rfl⟩
  try rw [hw3]
  rw [hqp] at hK3 ⊢
  have hcap := hCo.capM
  obtain ⟨a, c, e1, e2, -, e4⟩ := hCo.row
  injection e1 with e1 _ e3
  subst e1 e3
  obtain ⟨a, c, f1, f2, -, f4⟩ := hEo.row
  injection f1 with f1 _ f3
  subst f1 f3
  have HR3 := hide_ (e4.later hB3)
  have HE3 := hide_ (f2.later hB3)
  have HB3 := hide_ (below_to (below_to HB1.out hB2) hB3)
  have HK3 := hide_ hK3
  have hel : E.length ≤ 1048576 := hCk.ne
  have HCk := hide_ hCk
  have p0 := hK3.cell 0; have p1 := hK3.cell 1; have p2 := hK3.cell 2
  simp at p0 p1 p2
  have HSh := hide_ (shape_any en0 ac ae cc ce C E w3 e2 hcap (by omega) f4 (by omega) HR3 HE3)
  clear hw3 hqp hB2 hB3 hK3 hCo hEo e4 f2 hCk HB1
  go_wp2_with fail
  refine HSh.out.mono ?_
  rintro e w4 ⟨hB4, hT4⟩
  have HB4 := hide_ (below_to HB3.out hB4)
  have HK4 := hide_ (HK3.out.later hB4)
  have HR4 := hide_ (HR3.out.later hB4)
  have HE4 := hide_ (HE3.out.later hB4)
  clear HSh p0 p1 p2 HK3 HR3 HE3 HB3 hB4
  obtain ⟨tq, htq⟩ : ∃ tq, many.tmod ((E.length : Int) + 1) = tq := ⟨_, rfl⟩
  obtain ⟨q1, q2⟩ := tmod_few many ((E.length : Int) + 1) (by omega)
  rw [htq] at q1 q2
  have hz : (((E.length : Int) + 1) == 0) = false := by rw [beq_eq_false_iff_ne]; omega
  rcases hT4 with ⟨h1, h2, -, hl, g, rfl, -, hb⟩ | ⟨h1, rfl⟩
  · go_upto_region 5 with fail
    obtain ⟨w5, hw5⟩ : ∃ wx, w4.alloc (.cells #[.int .i64 0, .int .i64 0] 30) = wx := ⟨_, rfl⟩
    have hB5 : Below w4.heap.size w4 w5 := by rw [← hw5]; exact below1 _ _
    have hK5 : Blk w5 w4.heap.size 30 [.int .i64 0, .int .i64 0] := by rw [← hw5]; exact Blk.newA _ _ _
    try rw [hw5]
    clear hw5
    have z0 := hK5.cell 0; have z1 := hK5.cell 1
    simp at z0 z1
    have HK5 := hide_ (HK4.out.later hB5)
    have HR5 := hide_ (HR4.out.later hB5)
    have HE5 := hide_ (HE4.out.later hB5)
    have HB5 := hide_ (below_to HB4.out hB5)
    have Hb5 := hide_ (hb.later hB5)
    have Hv := hide_ h1
    have Hl := hide_ hl
    have p0 := HK5.out.cell 0; have p1 := HK5.out.cell 1; have p2 := HK5.out.cell 2
    simp at p0 p1 p2
    obtain ⟨qz, hqz⟩ : ∃ qz, w4.heap.size = qz := ⟨_, rfl⟩
    try rw [hqz]
    rw [hqz] at z0 z1
    clear h1 h2 hl hb hK5 HK4 HR4 HE4 HB4 hB5 hqz
    go_upto_region 6 with fail
    go_upto_if 29 with fail
    go_cut [8] from 30 to 35 (fun x8 wc => ∃ k : Nat, x8 = .int .i64 (k : Int) ∧ k ≤ E.length ∧ w5 = wc)
    case first =>
      by_cases hn : tq < 0
      · obtain ⟨k, hk⟩ : ∃ k : Nat, tq + (E.length : Int) + 1 = (k : Int) := ⟨(tq + (E.length : Int) + 1).toNat, by omega⟩
        have hkl : k ≤ E.length := by omega
        go_wp2_with fail
        go_meet
        case rel => exact ⟨k, rfl, hkl, rfl⟩
      · obtain ⟨k, hk⟩ : ∃ k : Nat, tq = (k : Int) := ⟨tq.toNat, by omega⟩
        have hkl : k ≤ E.length := by omega
        subst hk
        go_wp2_with fail
        go_meet
        case rel => exact ⟨k, rfl, hkl, rfl⟩
    case rest =>
    obtain ⟨k, rfl, hkl, rfl⟩ := hcut
    clear htq q1 q2 hz
    have hEk : (E.take k).length = k := by rw [List.length_take]; omega
    have hkc : (k : Int) ≤ (ce : Int) := by omega
    have hK5a := HK5.out.later (below1 w5 (.cells #[.bool false, .slice none 0 0, .slice none 0 0] 25))
    have s0 := hK5a.cell 0; have s1 := hK5a.cell 1; have s2 := hK5a.cell 2
    simp at s0 s1 s2
    clear hK5a
    go_upto_region 10 with fail
    go_cut [9] from 42 to 51 (fun x9 wc => ∃ q w6, x9 = .pointer (some ⟨q, 0, none⟩) ∧ w6 = wc ∧ Hid (Blk w6 q 25 [.bool en0, .slice ac C.length cc, .slice ae k ce]) ∧ Hid (Below w5.heap.size w5 w6))
    case first =>
      go_region
      go_wp2_with fail
      go_meet
      case rel => exact ⟨_, _, rfl, rfl, hide_ (by first | exact Blk.newA _ _ _ | exact (Blk.newA _ _ _).drew), hide_ (by first | exact (Below.refl _ _).drew.alloc _ | exact below1 _ _ | exact ((below1 _ _).drew))⟩
    case rest =>
    obtain ⟨q, w6, rfl, rfl, HKq, HBq⟩ := hcut
    have HB6 := hide_ (below_to HB5.out HBq.out)
    have HK6 := hide_ (HK5.out.later HBq.out)
    have HR6 := hide_ (HR5.out.later HBq.out)
    have HE6 := hide_ (HE5.out.later HBq.out)
    have Hb6 := hide_ (Hb5.out.later HBq.out)
    have HSq := shape_any en0 ac ae cc ce C (E.take k) w6 e2 hcap (by omega) (by rw [hEk]; omega) (by rw [hEk]; omega) HR6 (hide_ (HE6.out.takeF k))
    rw [hEk] at HSq
    have HSq := hide_ HSq
    have y0 := HKq.out.cell 0; have y1 := HKq.out.cell 1; have y2 := HKq.out.cell 2
    simp at y0 y1 y2
    clear s0 s1 s2 p0 p1 p2 z0 z1 hEk hkc HBq HK5 HR5 HE5 HB5 Hb5 HKq HK6
    go_wp2_with fail
    refine HSq.out.mono ?_
    rintro e w7 ⟨hB7, hT7⟩
    have HB7 := hide_ (below_to HB6.out hB7)
    have Hb7 := hide_ (Hb6.out.later hB7)
    clear HSq y0 y1 y2 hB7 HR6 HE6 HB6 Hb6
    rcases hT7 with ⟨u1, u2, -, ul, g2, rfl, -, ub⟩ | ⟨u1, rfl⟩
    · have Hfew := hide_ (few_shp HCk.out Hv.out k u1)
      obtain ⟨L, hL⟩ : ∃ L, shP en0 C E = L := ⟨_, rfl⟩
      obtain ⟨M, hM⟩ : ∃ M, shP en0 C (E.take k) = M := ⟨_, rfl⟩
      rw [hL, hM] at Hfew
      rw [hM] at ub ul
      rw [hL] at Hb7 Hl
      go_upto_region 12 with fail
      obtain ⟨w8, hw8⟩ : ∃ wx, w7.alloc (.cells #[.int .i64 0, .int .i64 0] 30) = wx := ⟨_, rfl⟩
      have hB8 : Below w7.heap.size w7 w8 := by rw [← hw8]; exact below1 _ _
      have hK8 : Blk w8 w7.heap.size 30 [.int .i64 0, .int .i64 0] := by rw [← hw8]; exact Blk.newA _ _ _
      try rw [hw8]
      clear hw8
      obtain ⟨n, hn⟩ : ∃ n, C.length = n := ⟨_, rfl⟩
      have HB8 := hide_ (below_to HB7.out hB8)
      have z0 := hK8.cell 0; have z1 := hK8.cell 1
      simp at z0 z1
      have Hml : Hid (∀ j, j < n → w8.cell? ⟨g, j, none⟩ = some (.int .i64 (hAt L j)) ∧ w8.cell? ⟨g2, j, none⟩ = some (.int .i64 (hAt M j)) ∧ (hAt M j ≠ -1 → hAt L j ≠ -1)) := hide_ (fun j hj => by
        refine ⟨?_, ?_, Hfew.out j (by omega)⟩
        · rw [(Hb7.out.later hB8).cell, cellsL_at .i64 L j (by rw [Hl.out]; omega)]
          rfl
        · rw [(ub.later hB8).cell, cellsL_at .i64 M j (by rw [ul]; omega)]
          rfl)
      have hn9 : n ≤ 1048576 := by have := HCk.out.nc; omega
      try rw [hn]
      clear u1 u2 ul ub Hb7 Hl Hfew HB7 hB8 hK8 Hv HCk hn hL hM hn0 hn1 e2
      go_wp2_with fail
      clear z0 z1
      go_loopw [12] (fun x12 wr => ∃ j : Nat, j ≤ n ∧ x12 = .int .i64 (j : Int) ∧ w8 = wr) (fun x12 _ => n - (intOf x12).toNat)
      case atStart => exact ⟨0, Nat.zero_le _, rfl, rfl⟩
      case round =>
        obtain ⟨j, hj, rfl, rfl⟩ := hrel
        by_cases hlt : j < n
        · have hlt' : (j : Int) < (n : Int) := by omega
          obtain ⟨c1, c2, c3⟩ := Hml.out j hlt
          obtain ⟨a, ha⟩ : ∃ a, hAt L j = a := ⟨_, rfl⟩
          obtain ⟨b, hb⟩ : ∃ b, hAt M j = b := ⟨_, rfl⟩
          rw [ha] at c1 c3
          rw [hb] at c2 c3
          by_cases hb1 : b = -1
          · subst hb1
            clear c3
            go_wp2_with fail
            go_roundw
            case rel => exact ⟨j + 1, by omega, by go_num, trivial⟩
            case measure => simp [intOf]; omega
          · have hb2 : (b != -1) = true := by simpa using hb1
            have ha2 : (a == -1) = false := by have := c3 hb1; simpa using this
            clear c3
            go_wp2_with fail
            go_roundw
            case rel => exact ⟨j + 1, by omega, by go_num, trivial⟩
            case measure => simp [intOf]; omega
        · have hlt' : ¬ ((j : Int) < (n : Int)) := by omega
          go_wp2_with fail
          go_ret
          exact ⟨rfl, HB8.out⟩
    · have h140 : (vfP en0 C (E.take k)).1 = 140 := by
        rcases few_ok HCk.out Hv.out k with ⟨h, -⟩ | h
        · exact absurd h u1
        · exact h
      obtain ⟨at_, hat⟩ : ∃ a, (vfP en0 C (E.take k)).2 = a := ⟨_, rfl⟩
      rw [h140, hat]
      go_upto_region 12 with fail
      obtain ⟨w8, hw8⟩ : ∃ wx, w7.alloc (.cells #[.int .i64 140, .int .i64 at_] 30) = wx := ⟨_, rfl⟩
      have hB8 : Below w7.heap.size w7 w8 := by rw [← hw8]; exact below1 _ _
      have hK8 : Blk w8 w7.heap.size 30 [.int .i64 140, .int .i64 at_] := by rw [← hw8]; exact Blk.newA _ _ _
      try rw [hw8]
      clear hw8 h140 hat u1
      have HB8 := hide_ (below_to HB7.out hB8)
      have z0 := hK8.cell 0; have z1 := hK8.cell 1
      simp at z0 z1
      go_wp2_with fail
      go_ret
      exact ⟨rfl, HB8.out⟩
  · obtain ⟨ev, hev⟩ : ∃ ev, (vfP en0 C E).1 = ev := ⟨_, rfl⟩
    obtain ⟨at_, hat⟩ : ∃ a, (vfP en0 C E).2 = a := ⟨_, rfl⟩
    rw [hev] at h1
    rw [hev, hat]
    have hev1 : (ev != 0) = true := by simpa using h1
    go_upto_region 5 with fail
    obtain ⟨w5, hw5⟩ : ∃ wx, w4.alloc (.cells #[.int .i64 ev, .int .i64 at_] 30) = wx := ⟨_, rfl⟩
    have hB5 : Below w4.heap.size w4 w5 := by rw [← hw5]; exact below1 _ _
    have hK5 : Blk w5 w4.heap.size 30 [.int .i64 ev, .int .i64 at_] := by rw [← hw5]; exact Blk.newA _ _ _
    try rw [hw5]
    clear hw5 hev hat
    have z0 := hK5.cell 0; have z1 := hK5.cell 1
    simp at z0 z1
    have HB5 := hide_ (below_to HB4.out hB5)
    have HK5 := hide_ (HK4.out.later hB5)
    have p0 := HK5.out.cell 0; have p1 := HK5.out.cell 1; have p2 := HK5.out.cell 2
    simp at p0 p1 p2
    obtain ⟨qz, hqz⟩ : ∃ qz, w4.heap.size = qz := ⟨_, rfl⟩
    try rw [hqz]
    rw [hqz] at z0 z1
    clear hK5 HK4 HR4 HE4 HB4 hB5 hqz h1
    go_upto_region 6 with fail
    go_upto_if 29 with fail
    go_cut [8] from 30 to 35 (fun x8 wc => ∃ k : Nat, x8 = .int .i64 (k : Int) ∧ k ≤ E.length ∧ w5 = wc)
    case first =>
      by_cases hn : tq < 0
      · obtain ⟨k, hk⟩ : ∃ k : Nat, tq + (E.length : Int) + 1 = (k : Int) := ⟨(tq + (E.length : Int) + 1).toNat, by omega⟩
        have hkl : k ≤ E.length := by omega
        go_wp2_with fail
        go_meet
        case rel => exact ⟨k, rfl, hkl, rfl⟩
      · obtain ⟨k, hk⟩ : ∃ k : Nat, tq = (k : Int) := ⟨tq.toNat, by omega⟩
        have hkl : k ≤ E.length := by omega
        subst hk
        go_wp2_with fail
        go_meet
        case rel => exact ⟨k, rfl, hkl, rfl⟩
    case rest =>
    obtain ⟨k, rfl, hkl, rfl⟩ := hcut
    clear htq q1 q2 hz p0 p1 p2
    go_wp2_with fail
    go_ret
    exact ⟨rfl, HB5.out⟩
end Go.Proofs.Ytiojpohmgjdgfaa
