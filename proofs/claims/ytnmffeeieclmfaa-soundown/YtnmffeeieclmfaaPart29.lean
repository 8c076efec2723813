import Derived.Test.YtnmffeeieclmfaaPart28
import Derived.Test.YtnmffeeieclmfaaPart16
import Derived.Test.YtnmffeeieclmfaaPart17
import Derived.Deep.RegionLaw

/- sound's laws: made. -/
namespace Go.Proofs.Ytnmffeeieclmfaa
open Go.RowKit
set_option linter.unusedVariables false
set_option linter.unusedSimpArgs false

theorem COwn.cut1 {w : World} {B g cap : Nat} {C : List In} {x : In} (h : COwn w B (.slice (some ⟨g, 0, none⟩) (C.length + 1) cap) (C ++ [x])) : COwn w B (.slice (some ⟨g, 0, none⟩) C.length cap) C := by
  unfold COwn at h
  rw [List.length_append, List.length_singleton] at h
  obtain ⟨g', cap', ys, e, hb, hn, hm, hl, ht, hK⟩ := ownS_blk h (by omega)
  injection e with e1 e2 e3
  injection e1 with e1
  injection e1 with e1 _ _
  subst e1 e3
  have h9 := ownS_of_blk (n := C.length) (c := 4) hK hb hl (by omega) hm
  have e9 : ys.take (C.length * 4) = cellsG inc C := by
    have e8 : ys.take (C.length * 4) = (ys.take ((C.length + 1) * 4)).take (C.length * 4) := by rw [List.take_take, Nat.min_eq_left (by omega)]
    have hlc : (cellsG inc C).length = C.length * 4 := cellsG_len inc_len C
    rw [e8, ht, cellsG_app, List.take_append_of_le_length (by omega), List.take_of_length_le (by omega)]
  rw [e9] at h9
  exact h9
theorem IOwn.cut1 {w : World} {B g cap : Nat} {E : List Int} {x : Int} (h : IOwn w B (.slice (some ⟨g, 0, none⟩) (E.length + 1) cap) (E ++ [x])) : IOwn w B (.slice (some ⟨g, 0, none⟩) E.length cap) E := by
  have h1 := h.cutV (m := E.length) (by rw [List.length_append, List.length_singleton]) (by omega)
  rw [List.take_left] at h1
  exact h1
/-- What made answers: a program of the call's own that has its form. -/
def Md15 (enc : Bool) (w : World) (e : Ending) (w' : World) : Prop := ∃ C E ac cc ae ce, e = .returned (.agg #[.bool enc, .slice ac C.length cc, .slice ae E.length ce]) ∧ Chk enc C E ∧ 0 < C.length ∧ C.length ≤ 100 ∧ COwn w' w.heap.size (.slice ac C.length cc) C ∧ IOwn w' w.heap.size (.slice ae E.length ce) E ∧ Below w.heap.size w w'
theorem COwn.capM {w : World} {B : Nat} {a : Option Addr} {n c : Nat} {l : List In} (h : COwn w B (.slice a n c) l) : c ≤ 9223372036854775807 := by
  by_cases h0 : 0 < l.length
  · obtain ⟨g', cap', ys, e, hb, hn, hm, -⟩ := ownS_blk h h0
    injection e with _ _ e
    unfold maxLen at hm
    omega
  · rcases h.2 with ⟨e, -⟩ | ⟨g, cap, cur, e, -, -, -, hm, -⟩
    · injection e with _ _ e; omega
    · injection e with _ _ e
      unfold maxLen at hm
      omega
/-- What Made and Lend answer, in one form. -/
def MdQ (enc : Bool) (w : World) (e : Ending) (w' : World) : Prop := ∃ C E ac cc ae ce, e = .returned (.agg #[.bool enc, .slice ac C.length cc, .slice ae E.length ce]) ∧ Hid (Chk enc C E ∧ 0 < C.length ∧ C.length ≤ 100 ∧ COwn w' w.heap.size (.slice ac C.length cc) C ∧ IOwn w' w.heap.size (.slice ae E.length ce) E) ∧ Hid (Below w.heap.size w w')
theorem MadeTo.q {enc : Bool} {most : Nat} {w w' : World} {e : Ending} (hm : most ≤ 99) (h : MadeTo enc most w e w') : MdQ enc w e w' := by
  obtain ⟨vC, vE, C, E, rfl, h1, h2, h3, -, h5, h6, h7⟩ := h
  obtain ⟨ac, cc, rfl, -⟩ := h5.row
  obtain ⟨ae, ce, rfl, -⟩ := h6.row
  exact ⟨C, E, ac, cc, ae, ce, rfl, hide_ ⟨h1, h2, by omega, h5, h6⟩, hide_ h7⟩
theorem LeTo.q {enc : Bool} {C : List In} {E : List Int} {w w' : World} {e : Ending} (hK : Chk enc C E) (h0 : 0 < C.length) (h1 : C.length ≤ 100) (h : LeTo enc C E w e w') : MdQ enc w e w' := by
  obtain ⟨gC, cC, gE, cE, rfl, hL, hB⟩ := h
  exact ⟨C, E, _, _, _, _, rfl, hide_ ⟨hK, h0, h1, hL.out.c.cut1, hL.out.e.cut1⟩, hB⟩
theorem md_fin {fn : Func} {p : Tmp} (hf : fn.results = #[.cell p 25]) {enc : Bool} {w w1 w2 : World} {C : List In} {E : List Int} {ac ae : Option Addr} {cc ce : Nat} {tmps : Array Value} (hB1 : Below w.heap.size w w1) (KF : Blk w2 (w.heap.size + 1) 25 [.bool false, .slice none 0 0, .slice none 0 0]) (hlt : w.heap.size + 1 < w1.heap.size)
    (hp : tmps.getD p undef = .pointer (some ⟨w.heap.size + 1, 0, none⟩)) (h : Chk enc C E ∧ 0 < C.length ∧ C.length ≤ 100 ∧ COwn w2 w1.heap.size (.slice ac C.length cc) C ∧ IOwn w2 w1.heap.size (.slice ae E.length ce) E) (hB2 : Below w1.heap.size w1 w2) :
    bodyPost Try.prog fn (Md15 enc w) Exit.ret ⟨tmps, []⟩ (((w2.setCell ⟨w.heap.size + 1, 0, none⟩ (.bool enc)).setCell ⟨w.heap.size + 1, 1, none⟩ (.slice ac C.length cc)).setCell ⟨w.heap.size + 1, 2, none⟩ (.slice ae E.length ce)) := by
  refine retP hf hp (setP KF _ _ _) ?_
  have hu := upd3 w2 (w.heap.size + 1) (.bool enc) (.slice ac C.length cc) (.slice ae E.length ce)
  refine ⟨C, E, ac, cc, ae, ce, rfl, h.1, h.2.1, h.2.2.1, own_base (ownS_upd h.2.2.2.1 hu (fun k hk e => by have := (World.ownsRow.lt h.2.2.2.1 k hk).1; omega)) hB1.size, own_base (owns_upd h.2.2.2.2 hu (fun k hk e => by have := (h.2.2.2.2.lies hk).1; omega)) hB1.size, below_wr3 (below_to hB1 hB2) (by omega) _ _ _⟩
set_option maxRecDepth 100000 in
set_option maxHeartbeats 16000000 in
theorem made15_any (enc : Bool) (ac ae : Option Addr) (cc ce : Nat) (C : List In) (E : List Int) (w : World) (hCl : C.length ≤ 4398046511104) (hel : E.length ≤ 17592186044415) (hcn : ac = none → cc = 0) (hen : ae = none → ce = 0) (hr : Hid (IRow w ac C)) (he : Hid (Row .i64 w ae E)) :
    Calls Try.prog 9 #[.agg #[.bool enc, .slice ac C.length cc, .slice ae E.length ce]] w (Md15 enc w) := by
  obtain ⟨w1, hw1⟩ : ∃ wx, (w.alloc (.cells #[.bool enc, .slice ac C.length cc, .slice ae E.length ce] 25)).alloc (.cells #[.bool false, .slice none 0 0, .slice none 0 0] 25) = wx := ⟨_, rfl⟩
  have hB1 : Below w.heap.size w w1 := by rw [← hw1]; exact below2 _ _ _
  obtain ⟨kp, kf⟩ := blk2 w #[.bool enc, .slice ac C.length cc, .slice ae E.length ce] #[.bool false, .slice none 0 0, .slice none 0 0] 25 25
  rw [hw1] at kp kf
  have hlt := kf.lt
  have p0 := kp.cell 0; have p1 := kp.cell 1; have p2 := kp.cell 2
  simp at p0 p1 p2
  have KP := hide_ kp
  have KF := hide_ kf
  have HB1 := hide_ hB1
  have Hlt := hide_ hlt
  have HMd : Hid (∀ w', Below w1.heap.size w1 w' → Calls Try.prog 12 #[.agg #[.bool enc, .slice ac C.length cc, .slice ae E.length ce], .int .i64 60] w' (MdQ enc w')) := hide_ (fun w' hB => by
    have h1 := below_to hB1 hB
    exact (rmade_any enc ac ae cc ce C E 60 w' (by omega) hCl hel hcn hen (hide_ (hr.out.later h1)) (hide_ (he.out.later h1))).mono (fun e w2 h => h.q (by omega)))
  clear kp kf hB1 hlt
  by_cases h1 : C.length < 1
  · have h1' : (C.length : Int) < 1 := by omega
    go_enter Try.func9, Try.ntmps9
    go_upto_region 1 with fail
    try rw [hw1]
    clear hw1
    go_wp2_with fail
    refine (HMd.out w1 (Below.refl _ _)).mono ?_
    rintro e w2 ⟨C2, E2, a2, c2, b2, d2, rfl, HQ, HB2⟩
    have KF2 := hide_ (KF.out.later HB2.out)
    have z0 := KF2.out.cell 0; have z1 := KF2.out.cell 1; have z2 := KF2.out.cell 2
    have zf := fun i => KF2.out.frozen i
    simp at z0 z1 z2
    go_wp2_with fail
    exact md_fin rfl HB1.out KF2.out Hlt.out rfl HQ.out HB2.out
  have h1' : ¬ (C.length : Int) < 1 := by omega
  by_cases h2 : 100 < C.length
  · have h2' : (100 : Int) < C.length := by omega
    go_enter Try.func9, Try.ntmps9
    go_upto_region 1 with fail
    try rw [hw1]
    clear hw1
    go_wp2_with fail
    refine (HMd.out w1 (Below.refl _ _)).mono ?_
    rintro e w2 ⟨C2, E2, a2, c2, b2, d2, rfl, HQ, HB2⟩
    have KF2 := hide_ (KF.out.later HB2.out)
    have z0 := KF2.out.cell 0; have z1 := KF2.out.cell 1; have z2 := KF2.out.cell 2
    have zf := fun i => KF2.out.frozen i
    simp at z0 z1 z2
    go_wp2_with fail
    exact md_fin rfl HB1.out KF2.out Hlt.out rfl HQ.out HB2.out
  have h2' : ¬ (100 : Int) < C.length := by omega
  by_cases h3 : 20 < E.length
  · have h3' : (20 : Int) < E.length := by omega
    go_enter Try.func9, Try.ntmps9
    go_upto_region 1 with fail
    try rw [hw1]
    clear hw1
    go_wp2_with fail
    refine (HMd.out w1 (Below.refl _ _)).mono ?_
    rintro e w2 ⟨C2, E2, a2, c2, b2, d2, rfl, HQ, HB2⟩
    have KF2 := hide_ (KF.out.later HB2.out)
    have z0 := KF2.out.cell 0; have z1 := KF2.out.cell 1; have z2 := KF2.out.cell 2
    have zf := fun i => KF2.out.frozen i
    simp at z0 z1 z2
    go_wp2_with fail
    exact md_fin rfl HB1.out KF2.out Hlt.out rfl HQ.out HB2.out
  have h3' : ¬ (20 : Int) < E.length := by omega
  obtain ⟨K, hK⟩ : ∃ K, chk enc C E = K := ⟨_, rfl⟩
  have HCk := hide_ (rcheck_any enc ac ae cc ce C E w1 (by omega) (by omega) (hide_ (hr.out.later HB1.out)) (hide_ (he.out.later HB1.out)))
  rw [hK] at HCk
  go_enter Try.func9, Try.ntmps9
  go_upto_region 1 with fail
  try rw [hw1]
  clear hw1
  go_wp2_with fail
  refine HCk.out.mono ?_
  rintro e w3 ⟨rfl, hB3⟩
  have KP3 := hide_ (KP.out.later hB3)
  have KF3 := hide_ (KF.out.later hB3)
  have HB3 := hide_ hB3
  clear p0 p1 p2 HCk hB3
  have p0 := KP3.out.cell 0; have p1 := KP3.out.cell 1; have p2 := KP3.out.cell 2
  simp at p0 p1 p2
  have hfl := fld0 (.int .i64 K.1) (.int .i64 K.2) w3
  by_cases h0 : K.1 = 0
  · have f0 : (K.1 == 0) = true := by simpa using h0
    have HLe : Hid (Calls Try.prog 18 #[.agg #[.bool enc, .slice ac C.length cc, .slice ae E.length ce]] w3 (MdQ enc w3)) := hide_ (by
      have h5 := below_to HB1.out HB3.out
      have hKk : Chk enc C E := chk_ok.1 (chk_zero (by rw [hK]; exact h0))
      exact (lend_any enc ac ae cc ce C E w3 (by omega) (by omega) hcn hen (hide_ (hr.out.later h5)) (hide_ (he.out.later h5))).mono (fun e w2 h => h.q hKk (by omega) (by omega)))
    clear h0
    go_wp2_with fail
    refine HLe.out.mono ?_
    rintro e w2 ⟨C2, E2, a2, c2, b2, d2, rfl, HQ, HB2⟩
    have KF2 := hide_ (KF3.out.later HB2.out)
    have z0 := KF2.out.cell 0; have z1 := KF2.out.cell 1; have z2 := KF2.out.cell 2
    have zf := fun i => KF2.out.frozen i
    simp at z0 z1 z2
    go_wp2_with fail
    exact md_fin rfl (below_to HB1.out HB3.out) KF2.out (Nat.lt_of_lt_of_le Hlt.out HB3.out.size) rfl HQ.out HB2.out
  · have f0 : (K.1 == 0) = false := by simpa using h0
    clear h0
    go_wp2_with fail
    refine (HMd.out w3 HB3.out).mono ?_
    rintro e w2 ⟨C2, E2, a2, c2, b2, d2, rfl, HQ, HB2⟩
    have KF2 := hide_ (KF3.out.later HB2.out)
    have z0 := KF2.out.cell 0; have z1 := KF2.out.cell 1; have z2 := KF2.out.cell 2
    have zf := fun i => KF2.out.frozen i
    simp at z0 z1 z2
    go_wp2_with fail
    exact md_fin rfl (below_to HB1.out HB3.out) KF2.out (Nat.lt_of_lt_of_le Hlt.out HB3.out.size) rfl HQ.out HB2.out
end Go.Proofs.Ytnmffeeieclmfaa

/- SoundOwn: the walk. -/
namespace Go.Proofs.Ytnmffeeieclmfaa
open Go.RowKit
set_option linter.unusedVariables false
set_option linter.unusedSimpArgs false

theorem shape_own (enc : Bool) (ac ae : Option Addr) (cc ce : Nat) (C : List In) (E : List Int) (w : World) (hC1 : C.length ≤ 100) (hel : E.length ≤ 1048576) (hr : Hid (COwn w 0 (.slice ac C.length cc) C)) (he : Hid (IOwn w 0 (.slice ae E.length ce) E)) :
    Calls Try.prog 10 #[.agg #[.bool enc, .slice ac C.length cc, .slice ae E.length ce]] w fun e w' => ∃ a c ts x y, e = .returned (.tuple #[.slice a (List.length ts) c, .agg #[.int .i64 x, .int .i64 y]]) ∧ Hid (w'.ownsRow w.heap.size 3 1 (.slice a (List.length ts) c) (List.length ts) (cellsL .i64 ts)) ∧ Hid (List.length ts ≤ 100) ∧ Hid (Below w.heap.size w w') := by
  obtain ⟨a, c, e1, e2, -, e4⟩ := hr.out.row
  injection e1 with e1 _ e3
  subst e1 e3
  obtain ⟨a, c, f1, f2, -, f4⟩ := he.out.row
  injection f1 with f1 _ f3
  subst f1 f3
  refine (shape_any enc _ _ _ _ C E w e2 hr.out.capM (by omega) f4 (by omega) (hide_ e4) (hide_ f2)).mono ?_
  rintro e w' ⟨h1, ⟨-, -, -, hl, g, rfl, hg, hb⟩ | ⟨-, rfl⟩⟩
  · refine ⟨some ⟨g, 0, none⟩, C.length, shP enc C E, 0, 0, by rw [hl], hide_ ?_, hide_ (by omega), hide_ h1⟩
    have h2 := hb.owns w.heap.size C.length C.length hg (by rw [cellsL_length, hl]) (Nat.le_refl _) (by unfold maxLen; omega)
    rw [List.take_of_length_le (by rw [cellsL_length, hl]; exact Nat.le_refl _)] at h2
    rw [hl]
    exact h2
  · exact ⟨none, 0, [], _, _, rfl, hide_ (World.ownsRow_nil _ _ _ _), hide_ (by simp), hide_ h1⟩
/-- A program in a box, with lists of the call's own. -/
def PBox (w : World) (q : Nat) : Prop := ∃ enc C E ac cc ae ce, Blk w q 25 [.bool enc, .slice ac (List.length C) cc, .slice ae (List.length E) ce] ∧ List.length C ≤ 100 ∧ List.length E ≤ 1048576 ∧ COwn w 0 (.slice ac (List.length C) cc) C ∧ IOwn w 0 (.slice ae (List.length E) ce) E
theorem PBox.upd {w w' : World} {q : Nat} (h : PBox w q) {S : Nat → Prop} (hu : Upd S w w') (hq : ¬ S q) (hC : ∀ k ys, Blk w k 36 ys → ¬ S k) (hE : ∀ k ys, Blk w k 3 ys → ¬ S k) : PBox w' q := by
  obtain ⟨enc, C, E, ac, cc, ae, ce, h1, h2, h3, h4, h5⟩ := h
  refine ⟨enc, C, E, ac, cc, ae, ce, h1.upd hu hq, h2, h3, ownS_upd h4 hu (fun k hk => ?_), ownS_upd h5 hu (fun k hk => ?_)⟩
  · obtain ⟨zs, hz⟩ := ownS_type h4 hk
    exact hC k zs hz
  · obtain ⟨zs, hz⟩ := ownS_type h5 hk
    exact hE k zs hz
theorem PBox.later {w w' : World} {q : Nat} (h : PBox w q) (hB : Below w.heap.size w w') : PBox w' q := h.upd (Upd.of_below (S := fun _ => False) hB) (fun h => h) (fun _ _ _ h => h) (fun _ _ _ h => h)
theorem Md15.box {enc : Bool} {w w' : World} {e : Ending} (h : Md15 enc w e w') : ∃ C E ac cc ae ce, e = .returned (.agg #[.bool enc, .slice ac (List.length C) cc, .slice ae (List.length E) ce]) ∧ Hid (List.length C ≤ 100 ∧ List.length E ≤ 1048576 ∧ COwn w' 0 (.slice ac (List.length C) cc) C ∧ IOwn w' 0 (.slice ae (List.length E) ce) E) ∧ Hid (Below w.heap.size w w') := by
  obtain ⟨C, E, ac, cc, ae, ce, rfl, h1, h2, h3, h4, h5, h6⟩ := h
  exact ⟨C, E, _, _, _, _, rfl, hide_ ⟨h3, h1.ne, own_base h4 (Nat.zero_le _), own_base h5 (Nat.zero_le _)⟩, hide_ h6⟩
/-- A program is written into a box. -/
theorem box_put {w : World} {q : Nat} {x0 x1 x2 : Value} {enc : Bool} {C : List In} {E : List Int} {ac ae : Option Addr} {cc ce : Nat} (hq : Blk w q 25 [x0, x1, x2]) (h : List.length C ≤ 100 ∧ List.length E ≤ 1048576 ∧ COwn w 0 (.slice ac (List.length C) cc) C ∧ IOwn w 0 (.slice ae (List.length E) ce) E) :
    PBox (((w.setCell ⟨q, 0, none⟩ (.bool enc)).setCell ⟨q, 1, none⟩ (.slice ac C.length cc)).setCell ⟨q, 2, none⟩ (.slice ae E.length ce)) q := by
  have hu := upd3 w q (.bool enc) (.slice ac C.length cc) (.slice ae E.length ce)
  refine ⟨enc, C, E, ac, cc, ae, ce, setP hq _ _ _, h.1, h.2.1, ownS_upd h.2.2.1 hu (fun k hk e => ?_), ownS_upd h.2.2.2 hu (fun k hk e => ?_)⟩
  · obtain ⟨zs, hz⟩ := ownS_type h.2.2.1 hk
    exact absurd (blk_type hz (e ▸ hq)) (by decide)
  · obtain ⟨zs, hz⟩ := ownS_type h.2.2.2 hk
    exact absurd (blk_type hz (e ▸ hq)) (by decide)
theorem PBox.blk {w : World} {q : Nat} (h : PBox w q) : ∃ x0 x1 x2, Blk w q 25 [x0, x1, x2] := by
  obtain ⟨enc, C, E, ac, cc, ae, ce, h1, -⟩ := h
  exact ⟨_, _, _, h1⟩
theorem own_keep {w w' : World} {B n c : Nat} {e T : TypeId} {v : Value} {xs : List Value} (hk : ∀ q t ys, t ≠ T → Blk w q t ys → Blk w' q t ys) (he : e ≠ T) (h : w.ownsRow B e c v n xs) : w'.ownsRow B e c v n xs := by
  refine ⟨h.1, ?_⟩
  rcases h.2 with h0 | ⟨g, cap, cur, h1, h2, h3, r⟩
  · exact .inl h0
  · refine .inr ⟨g, cap, cur, h1, h2, ?_, r⟩
    have h4 := hk g e cur.toList he (by unfold Blk; rw [Array.toArray_toList]; exact h3)
    unfold Blk at h4
    rw [Array.toArray_toList] at h4
    exact h4
def pC4 : List In := [⟨1, -1, 2, 0⟩, ⟨20, 0, 0, 0⟩]
set_option maxRecDepth 100000 in
set_option maxHeartbeats 16000000 in
theorem sown_any (en1 en2 : Bool) (a1 b1 a2 b2 : Option Addr) (c1 d1 c2 d2 : Nat) (P1 : List In) (E1 : List Int) (P2 : List In) (E2 : List Int) (w : World) (hP1 : P1.length ≤ 4398046511104) (hE1 : E1.length ≤ 17592186044415) (hP2 : P2.length ≤ 4398046511104) (hE2 : E2.length ≤ 17592186044415) (n1 : a1 = none → c1 = 0) (m1 : b1 = none → d1 = 0) (n2 : a2 = none → c2 = 0) (m2 : b2 = none → d2 = 0)
    (r1 : Hid (IRow w a1 P1)) (s1 : Hid (Row .i64 w b1 E1)) (r2 : Hid (IRow w a2 P2)) (s2 : Hid (Row .i64 w b2 E2)) :
    Calls Try.prog 4 #[.agg #[.bool en1, .slice a1 P1.length c1, .slice b1 E1.length d1], .agg #[.bool en2, .slice a2 P2.length c2, .slice b2 E2.length d2]] w fun e w' => e = .returned (.bool true) ∧ Below w.heap.size w w' := by
  obtain ⟨w0, hw0⟩ : ∃ w0, (w.alloc (.cells #[.bool en1, .slice a1 P1.length c1, .slice b1 E1.length d1] 25)).alloc (.cells #[.bool en2, .slice a2 P2.length c2, .slice b2 E2.length d2] 25) = w0 := ⟨_, rfl⟩
  have HB0 : Hid (Below w.heap.size w w0) := hide_ (by rw [← hw0]; exact below2 _ _ _)
  obtain ⟨k0, l0⟩ := blk2 w #[.bool en1, .slice a1 P1.length c1, .slice b1 E1.length d1] #[.bool en2, .slice a2 P2.length c2, .slice b2 E2.length d2] 25 25
  rw [hw0] at k0 l0
  have K0 := hide_ k0
  have L0 := hide_ l0
  clear k0 l0
  have HM1 : Hid (∀ w', Below w.heap.size w w' → Calls Try.prog 9 #[.agg #[.bool en1, .slice a1 P1.length c1, .slice b1 E1.length d1]] w' (Md15 en1 w')) := hide_ (fun w' hB => made15_any en1 a1 b1 c1 d1 P1 E1 w' hP1 hE1 n1 m1 (hide_ (r1.out.later hB)) (hide_ (s1.out.later hB)))
  have HM2 : Hid (∀ w', Below w.heap.size w w' → Calls Try.prog 9 #[.agg #[.bool en2, .slice a2 P2.length c2, .slice b2 E2.length d2]] w' (Md15 en2 w')) := hide_ (fun w' hB => made15_any en2 a2 b2 c2 d2 P2 E2 w' hP2 hE2 n2 m2 (hide_ (r2.out.later hB)) (hide_ (s2.out.later hB)))
  clear r1 s1 r2 s2 n1 m1 n2 m2
  go_enter Try.func4, Try.ntmps4
  go_upto_region 1 with fail
  try rw [hw0]
  clear hw0
  go_wp2_with fail
  refine (first15_any w0).mono ?_
  rintro e w1 ⟨rfl, hB1⟩
  have HB1 := hide_ (below_to HB0.out hB1)
  have K1 := hide_ (K0.out.later hB1)
  have L1 := hide_ (L0.out.later hB1)
  clear hB1 HB0 K0 L0
  have HG0 : Hid (∃ (F H : Nat → Value) (L : Nat → List Int), Gs w.heap.size w1 (.slice none 0 0) (.slice none 0 0) 0 0 0 0 F H L) := hide_ ⟨fun _ => .slice none 0 0, fun _ => .slice none 0 0, fun _ => [], Gs.nil w1 HB1.out.size⟩
  go_wp2_with fail
  go_loopw [5, 6, 7] (fun x5 x6 x7 wr => ∃ (vG vW : Value) (k : Nat), vG = x5 ∧ vW = x6 ∧ x7 = .int .i64 (k : Int) ∧ k ≤ 6 ∧ Hid (∃ (F H : Nat → Value) (L : Nat → List Int), Gs w.heap.size wr vG vW (2 * k) (2 * k) (2 * k) (2 * k) F H L) ∧ Hid (Below w.heap.size w wr) ∧ Hid (Blk wr w.heap.size 25 [.bool en1, .slice a1 P1.length c1, .slice b1 E1.length d1]) ∧ Hid (Blk wr (w.heap.size + 1) 25 [.bool en2, .slice a2 P2.length c2, .slice b2 E2.length d2])) (fun _ _ x _ => 6 - (intOf x).toNat)
  case atStart => exact ⟨_, _, 0, rfl, rfl, rfl, Nat.zero_le _, HG0, HB1, K1, L1⟩
  case round =>
    clear HB1 HG0 K1 L1
    obtain ⟨vG, vW, k, rfl, rfl, rfl, hk, HG, HB, HK, HL⟩ := hrel
    generalize wr = wq at *
    by_cases hk6 : k < 6
    · have hk6' : (k : Int) < 6 := by omega
      have p0 := HK.out.cell 0; have p1 := HK.out.cell 1; have p2 := HK.out.cell 2
      simp at p0 p1 p2
      have HMa := hide_ (HM1.out wq HB.out)
      go_wp2_with fail
      refine HMa.out.mono ?_
      rintro e w2 hT2
      obtain ⟨C2, Z2, x2, y2, u2, v2, rfl, HQ2, HB2⟩ := hT2.box
      clear hT2 HMa p0 p1 p2
      go_upto_region 8 with fail
      obtain ⟨w3, hw3⟩ : ∃ wx, w2.alloc (.cells #[.bool en1, .slice x2 C2.length y2, .slice u2 Z2.length v2] 25) = wx := ⟨_, rfl⟩
      have hB3 : Below w2.heap.size w2 w3 := by rw [← hw3]; exact below1 _ _
      have hK3 : Blk w3 w2.heap.size 25 [.bool en1, .slice x2 C2.length y2, .slice u2 Z2.length v2] := by rw [← hw3]; exact Blk.newA _ _ _
      obtain ⟨qp, hqp⟩ : ∃ qp, w2.heap.size = qp := ⟨_, rfl⟩
      try rw [hw3]
      rw [hqp] at hK3 ⊢
      have HP3 : Hid (PBox w3 qp) := hide_ ⟨en1, C2, Z2, x2, y2, u2, v2, hK3, HQ2.out.1, HQ2.out.2.1, ownS_upd HQ2.out.2.2.1 (Upd.of_below (S := fun _ => False) hB3) (fun _ _ h => h), ownS_upd HQ2.out.2.2.2 (Upd.of_below (S := fun _ => False) hB3) (fun _ _ h => h)⟩
      have hBq3 := below_to HB2.out hB3
      have HBq3 := hide_ hBq3
      have Hqp : Hid (wq.heap.size ≤ qp) := hide_ (by rw [← hqp]; exact HB2.out.size)
      clear hw3 hB3 hK3 hqp hBq3 HB2 HQ2
      obtain ⟨r, hr⟩ : ∃ r, (k : Int).tmod 3 = r := ⟨_, rfl⟩
      obtain ⟨t1, ht1⟩ : ∃ t1, (r == 1) = t1 := ⟨_, rfl⟩
      obtain ⟨t2, ht2⟩ : ∃ t2, (r == 2) = t2 := ⟨_, rfl⟩
      go_upto_if 30 with fail
      go_cut [30] from 30 to 32 (fun x30 wc => ∃ w4, w4 = wc ∧ x30 = .bool t1 ∧ Hid (PBox w4 qp) ∧ Hid (Below wq.heap.size wq w4))
      case first =>
        cases t1
        · go_wp2_with fail
          go_meet
          case rel => exact ⟨_, rfl, rfl, HP3, HBq3⟩
        · have l3 := HL.out.later HBq3.out
          have p0 := l3.cell 0; have p1 := l3.cell 1; have p2 := l3.cell 2
          simp at p0 p1 p2
          have HMb := hide_ (HM2.out w3 (below_to HB.out HBq3.out))
          clear l3
          go_wp2_with fail
          refine HMb.out.mono ?_
          rintro e w4 hT4
          obtain ⟨C4, Z4, x4, y4, u4, v4, rfl, HQ4, HB4⟩ := hT4.box
          clear hT4 HMb p0 p1 p2
          obtain ⟨z0, z1, z2, hz⟩ := (HP3.out.later HB4.out).blk
          have s0 := hz.cell 0; have s1 := hz.cell 1; have s2 := hz.cell 2
          have zf := fun i => hz.frozen i
          simp at s0 s1 s2
          have HP5 := hide_ (box_put (enc := en2) hz HQ4.out)
          have HB5 := hide_ (below_wr3 (below_to HBq3.out HB4.out) Hqp.out (.bool en2) (.slice x4 C4.length y4) (.slice u4 Z4.length v4))
          clear hz HQ4 HB4
          go_wp2_with fail
          go_meet
          case rel => exact ⟨_, rfl, rfl, HP5, HB5⟩
      case rest =>
      obtain ⟨w4, rfl, rfl, HP4, HBq4⟩ := hcut
      clear HP3 HBq3
      go_upto_if 35 with fail
      go_cut [35] from 35 to 40 (fun x35 wc => ∃ w5, w5 = wc ∧ x35 = .bool t2 ∧ Hid (PBox w5 qp) ∧ Hid (Below wq.heap.size wq w5))
      case first =>
        cases t2
        · go_wp2_with fail
          go_meet
          case rel => exact ⟨_, rfl, rfl, HP4, HBq4⟩
        · obtain ⟨w5, hw5⟩ : ∃ wx, (w4.alloc (.cells #[.int .i64 1, .int .i64 (-1), .int .i64 2, .int .i64 0, .int .i64 20, .int .i64 0, .int .i64 0, .int .i64 0] 36)).alloc (.cells #[.int .i64 0] 3) = wx := ⟨_, rfl⟩
          obtain ⟨hc, hi⟩ := blk2 w4 #[.int .i64 1, .int .i64 (-1), .int .i64 2, .int .i64 0, .int .i64 20, .int .i64 0, .int .i64 0, .int .i64 0] #[.int .i64 0] 36 3
          have hB5 : Below w4.heap.size w4 w5 := by rw [← hw5]; exact below2 _ _ _
          rw [hw5] at hc hi
          obtain ⟨z0, z1, z2, hz⟩ := (HP4.out.later hB5).blk
          have s0 := hz.cell 0; have s1 := hz.cell 1; have s2 := hz.cell 2
          have zf := fun i => hz.frozen i
          simp at s0 s1 s2
          have HP5 : Hid (PBox (((w5.setCell ⟨qp, 0, none⟩ (.bool false)).setCell ⟨qp, 1, none⟩ (.slice (some ⟨w4.heap.size, 0, none⟩) 2 2)).setCell ⟨qp, 2, none⟩ (.slice (some ⟨w4.heap.size + 1, 0, none⟩) 1 1)) qp) := hide_ (box_put (C := pC4) (E := [0]) (cc := 2) (ce := 1) (enc := false) hz ⟨by decide, by decide, ownS_of_blk (n := 2) (c := 4) (cap := 2) hc (Nat.zero_le _) rfl (by decide) (by decide), ownS_of_blk (n := 1) (c := 1) (cap := 1) hi (Nat.zero_le _) rfl (by decide) (by decide)⟩)
          have HB5 := hide_ (below_wr3 (below_to HBq4.out hB5) Hqp.out (.bool false) (.slice (some ⟨w4.heap.size, 0, none⟩) 2 2) (.slice (some ⟨w4.heap.size + 1, 0, none⟩) 1 1))
          clear hz hc hi hB5
          go_wp2_with fail
          try rw [hw5]
          clear hw5
          go_meet
          case rel => exact ⟨_, rfl, rfl, HP5, HB5⟩
      case rest =>
      obtain ⟨w5, rfl, rfl, HP5, HBq5⟩ := hcut
      have HGw : Hid (∃ (F H : Nat → Value) (L : Nat → List Int), Gs w.heap.size w5 vG vW (2 * k + 0) (2 * k + 0) (2 * k + 0) (2 * k + 0) F H L) := hide_ (by
        obtain ⟨F, H, L, G⟩ := HG.out
        exact ⟨F, H, L, G.later HBq5.out⟩)
      have HB5 := hide_ (below_to HB.out HBq5.out)
      have HK5 := hide_ (HK.out.later HBq5.out)
      have HL5 := hide_ (HL.out.later HBq5.out)
      clear HP4 HBq4 HG HB HK HL hr ht1 ht2
      go_wp2_with fail
      go_loopw [5, 6, 9] (fun x5 x6 x9 wr => ∃ (vG vW : Value) (j : Nat), vG = x5 ∧ vW = x6 ∧ x9 = .int .i64 (j : Int) ∧ j ≤ 2 ∧ Hid (∃ (F H : Nat → Value) (L : Nat → List Int), Gs w.heap.size wr vG vW (2 * k + j) (2 * k + j) (2 * k + j) (2 * k + j) F H L) ∧ Hid (PBox wr qp) ∧ Hid (Below w.heap.size w wr) ∧ Hid (Blk wr w.heap.size 25 [.bool en1, .slice a1 P1.length c1, .slice b1 E1.length d1]) ∧ Hid (Blk wr (w.heap.size + 1) 25 [.bool en2, .slice a2 P2.length c2, .slice b2 E2.length d2])) (fun _ _ x _ => 2 - (intOf x).toNat)
      case atStart => exact ⟨_, _, 0, rfl, rfl, rfl, Nat.zero_le _, HGw, HP5, HB5, HK5, HL5⟩
      case round =>
        clear HGw HP5 HB5 HK5 HL5 HBq5
        obtain ⟨vG, vW, j, rfl, rfl, rfl, hj, HG, HP, HB, HK, HL⟩ := hrel
        generalize wr = wp at *
        by_cases hj2 : j < 2
        · have hj2' : (j : Int) < 2 := by omega
          obtain ⟨enc, C, Z, x, y, u, v, hb, hC1, hZ1, hco, hio⟩ := HP.out
          have p0 := hb.cell 0; have p1 := hb.cell 1; have p2 := hb.cell 2
          simp at p0 p1 p2
          have HSh := hide_ (shape_own enc x u y v C Z wp hC1 hZ1 (hide_ hco) (hide_ hio))
          clear hb hco hio
          go_wp2_with fail
          refine HSh.out.mono ?_
          rintro e w6 ⟨a6, c6, ts, f0, f1, rfl, HO6, Hts, HB6⟩
          clear HSh p0 p1 p2
          go_upto_region 16 with fail
          obtain ⟨w7, hw7⟩ : ∃ wx, w6.alloc (.cells #[.int .i64 f0, .int .i64 f1] 30) = wx := ⟨_, rfl⟩
          have hB7 : Below w6.heap.size w6 w7 := by rw [← hw7]; exact below1 _ _
          try rw [hw7]
          clear hw7
          obtain ⟨N, hNe⟩ : ∃ N, 2 * k + j = N := ⟨_, rfl⟩
          rw [hNe] at HG
          have hN1 : N ≤ 20 := by omega
          obtain ⟨F, H, L, G0⟩ := HG.out
          have G1 := G0.moreG HB6.out (Nat.le_refl _) (Nat.le_refl _) HO6.out (by have := Hts.out; omega)
          have G3 := G1.later hB7
          obtain ⟨X, hX⟩ : ∃ X : Nat → Value, ext F N (.slice a6 ts.length c6) = X := ⟨_, rfl⟩
          obtain ⟨L2, hL2⟩ : ∃ L2 : Nat → List Int, ext L N ts = L2 := ⟨_, rfl⟩
          rw [hX, hL2] at G3
          have hX1 : X N = .slice a6 ts.length c6 := by rw [← hX, ext_at]
          have hL21 : L2 N = ts := by rw [← hL2, ext_at]
          clear hX hL2
          obtain ⟨gG, cG, w8, r8, G8, B8, K8⟩ := G3.pushG (by omega) (by omega)
          rw [hX1] at r8
          have R6 := hide_ r8
          have hBt7 := below_to (below_to HB.out HB6.out) hB7
          have HB8 := hide_ (hBt7.trans B8)
          have HK8 := hide_ (K8 _ _ _ (by decide) ((HK.out.later HB6.out).later hB7))
          have HL8 := hide_ (K8 _ _ _ (by decide) ((HL.out.later HB6.out).later hB7))
          have o1 := G8.oG N (by omega)
          rw [hX1, hL21] at o1
          obtain ⟨a9, c9, w9, r9, o9, B9⟩ := run_copyI w8 _ _ ts o1 (by have := Hts.out; omega)
          have R7 := hide_ r9
          have G9 := G8.moreW B9 (Nat.le_refl _) (x := .slice a9 ts.length c9) (by rw [hL21]; exact o9)
          obtain ⟨gW, cW, w11, r11, G11, B11, K11⟩ := G9.pushW (by omega) (by omega)
          rw [ext_at] at r11
          have R9 := hide_ r11
          have HB11 := hide_ ((HB8.out.trans (B9.mono HB8.out.size)).trans B11)
          have HK11 := hide_ (K11 _ _ _ (by decide) (HK8.out.later B9))
          have HL11 := hide_ (K11 _ _ _ (by decide) (HL8.out.later B9))
          have HP11 : Hid (PBox w11 qp) := hide_ (by
            obtain ⟨enc, C, E, ac, cc, ae, ce, g1, g2, g3, g4, g5⟩ := (HP.out.later HB6.out).later hB7
            have k8 := K8 _ _ _ (by decide) g1
            have k11 := K11 _ _ _ (by decide) (k8.later B9)
            refine ⟨enc, C, E, ac, cc, ae, ce, k11, g2, g3, ?_, ?_⟩
            · exact own_keep K11 (by decide) (ownS_upd (own_keep K8 (by decide) g4) (Upd.of_below (S := fun _ => False) B9) (fun _ _ h => h))
            · exact own_keep K11 (by decide) (ownS_upd (own_keep K8 (by decide) g5) (Upd.of_below (S := fun _ => False) B9) (fun _ _ h => h)))
          have HG11 := hide_ (show ∃ (F H : Nat → Value) (L : Nat → List Int), Gs w.heap.size w11 (.slice (some ⟨gG, 0, none⟩) (N + 1) cG) (.slice (some ⟨gW, 0, none⟩) (N + 1) cW) (2 * k + (j + 1)) (2 * k + (j + 1)) (2 * k + (j + 1)) (2 * k + (j + 1)) F H L from ⟨_, _, _, by rw [show 2 * k + (j + 1) = N + 1 by omega]; exact G11⟩)
          clear r8 G8 B8 K8 r9 o9 B9 G9 r11 G11 B11 K11 o1 hX1 hL21 G3 G1 G0 HB8 HK8 HL8 HG HP HB HK HL hB7 hBt7 HO6 Hts HB6 hNe
          go_wp2_with (first
            | (at_builtin; have _t := R6; refine wpList_append_run rfl (.tmp 50) (.tmp 52) 34 34 rfl rfl rfl R6.out ?_; clear R6)
            | (at_builtin; have _t := R7; refine wpList_append_run rfl (.tmp 55) (.tmp 56) 23 23 rfl rfl rfl R7.out ?_; clear R7)
            | (at_builtin; have _t := R9; refine wpList_append_run rfl (.tmp 54) (.tmp 58) 34 34 rfl rfl rfl R9.out ?_; clear R9))
          go_roundw
          case rel => exact ⟨_, _, j + 1, rfl, rfl, by go_num, by omega, HG11, HP11, HB11, HK11, HL11⟩
          case measure => simp [intOf]; omega
        · have hj2' : ¬ (j : Int) < 2 := by omega
          have HG2 : Hid (∃ (F H : Nat → Value) (L : Nat → List Int), Gs w.heap.size wp vG vW (2 * (k + 1)) (2 * (k + 1)) (2 * (k + 1)) (2 * (k + 1)) F H L) := hide_ (by
            have h1 := HG.out
            rw [show 2 * k + j = 2 * (k + 1) by omega] at h1
            exact h1)
          clear HG HP
          go_wp2_with fail
          go_roundw
          case rel => exact ⟨_, _, k + 1, rfl, rfl, by go_num, by omega, HG2, HB, HK, HL⟩
          case measure => simp [intOf]; omega
    · have hk6' : ¬ (k : Int) < 6 := by omega
      clear HK HL
      obtain ⟨F, H, L, G⟩ := HG.out
      obtain ⟨N, hN⟩ : ∃ N, 2 * k = N := ⟨_, rfl⟩
      rw [hN] at G
      obtain ⟨aG, cG, rfl⟩ := G.rG.form
      obtain ⟨aW, cW, rfl⟩ := G.rW.form
      have HG2 := hide_ G
      clear G HG
      have fin := HB
      clear HB
      have hN' : N ≤ 80 := by omega
      clear hN
      go_upto_region 19 with fail
      clear hk6 hk6' hk
      go_wp2_with fail
      go_loopw [13] (fun x wr => ∃ k : Nat, x = .int .i64 k ∧ k ≤ N ∧ Hid (Below wq.heap.size wq wr)) (fun x _ => N - (intOf x).toNat)
      case atStart => exact ⟨0, rfl, Nat.zero_le _, Below.refl _ _⟩
      case round =>
        obtain ⟨k, rfl, hk, HB⟩ := hrel
        generalize wr = wa at *
        by_cases hkN : k < N
        · have hkN' : (k : Int) < N := by omega
          have Ga := HG2.out.later HB.out
          obtain ⟨qG, cG', eG, hqG, hnG, hmG, hcG⟩ := Ga.rG.open (by omega)
          obtain ⟨qW, cW', eW, hqW, hnW, hmW, hcW⟩ := Ga.rW.open (by omega)
          injection eG with eG1 _ eG3
          injection eW with eW1 _ eW3
          subst eG1 eW1 eG3 eW3
          obtain ⟨af, cf, hFk, hTf, -⟩ := own_open (Ga.oG k hkN) rfl
          obtain ⟨ah, ch, hHk, hTh, -⟩ := own_open (Ga.oW k hkN) rfl
          have d1 := hcG k hkN
          have d2 := hcW k hkN
          rw [hFk] at d1
          rw [hHk] at d2
          have hfw := Ga.few k hkN
          have HS : Hid (∀ w', Below wa.heap.size wa w' → Calls Try.prog 11 #[.slice af (L k).length cf, .slice ah (L k).length ch] w' fun e w'' => e = .returned (.bool true) ∧ Below w'.heap.size w' w'') := hide_ (fun w' hB => by
            have h := ints_any af ah cf ch (L k) (L k) w' (by omega) (by omega) (hide_ (hTf.later hB)) (hide_ (hTh.later hB))
            simpa using h)
          have bG := World.block_lt_of_cell? wa _ d1
          have bW := World.block_lt_of_cell? wa _ d2
          have HSS : Hid (∀ w', Below wa.heap.size wa w' → Below wa.heap.size wa w' ∧ w'.cell? ⟨qG, k, none⟩ = some (.slice af (L k).length cf) ∧ w'.cell? ⟨qW, k, none⟩ = some (.slice ah (L k).length ch)) := fun w' hB => ⟨hB, (hB.cell (p := ⟨qG, k, none⟩) bG).trans d1, (hB.cell (p := ⟨qW, k, none⟩) bW).trans d2⟩
          clear Ga hcG hcW hFk hHk hTf hTh bG bW
          go_wp2_with fail
          go_region_held_law (fun w' => Below wa.heap.size wa w' ∧ w'.cell? ⟨qG, k, none⟩ = some (.slice af (L k).length cf) ∧ w'.cell? ⟨qW, k, none⟩ = some (.slice ah (L k).length ch)) (first | assumption | exact HSS.out _ ((Below.refl _ _).drew))
            (first
              | (go_at_call 11; refine (HS.out _ (by first | assumption | exact And.left (by assumption))).mono ?_; rintro e wz ⟨rfl, hBz⟩; have Gz := HSS.out wz (below_to (by first | assumption | exact And.left (by assumption)) hBz); clear hBz))
          obtain ⟨Bz, -, -⟩ := Gz
          have HBz := hide_ (below_to HB.out Bz)
          clear Bz HS HSS d1 d2
          go_wp2
          go_roundw
          case rel => exact ⟨k + 1, by go_num, by omega, HBz⟩
          case measure => simp [intOf]; omega
        · obtain rfl : k = N := by omega
          have HM : Hid (∃ C, (∀ j, (C j).length = (L j).length) ∧ Gm w.heap.size wa (.slice aG k cG) k F C) := ⟨L, fun _ => rfl, (HG2.out.later HB.out).gm⟩
          have HBa := hide_ (fin.out.trans (HB.out.mono fin.out.size))
          clear HG2 fin HB
          generalize k = N at *
          obtain ⟨nn, hnn⟩ : ∃ nn : Nat → Nat, (fun j => (L j).length) = nn := ⟨_, rfl⟩
          have HM2 : Hid (∃ C, (∀ j, (C j).length = nn j) ∧ (∀ j, j < 0 → C j = mks j (nn j)) ∧ Gm w.heap.size wa (.slice aG N cG) N F C) := by
            obtain ⟨C, c1, c2⟩ := HM.out
            exact ⟨C, fun j => by rw [c1, ← hnn], fun j hj => by omega, c2⟩
          clear HM hnn
          go_wp2_with fail
          go_loopw [14] (fun x wr => ∃ k : Nat, x = .int .i64 k ∧ k ≤ N ∧ Hid (∃ C, (∀ j, (C j).length = nn j) ∧ (∀ j, j < k → C j = mks j (nn j)) ∧ Gm w.heap.size wr (.slice aG N cG) N F C) ∧ Hid (Below w.heap.size w wr)) (fun x _ => N - (intOf x).toNat)
          case atStart => exact ⟨0, rfl, Nat.zero_le _, HM2, HBa⟩
          case round =>
            clear HM2 HBa
            obtain ⟨k, rfl, hk, HM, HB⟩ := hrel
            generalize wr = wa at *
            by_cases hkN : k < N
            · have hkN' : (k : Int) < N := by omega
              have HM3 : Hid (∃ C, (∀ j, (C j).length = nn j) ∧ (∀ j, j < k → C j = mks j (nn j)) ∧ (C k).take 0 = mks k 0 ∧ Gm w.heap.size wa (.slice aG N cG) N F C) := by
                obtain ⟨C, c1, c2, c3⟩ := HM.out
                exact ⟨C, c1, c2, by simp [mks], c3⟩
              clear HM
              go_wp2_with fail
              go_loopw [15] (fun x wr => ∃ j : Nat, x = .int .i64 j ∧ j ≤ nn k ∧ Hid (∃ C, (∀ j, (C j).length = nn j) ∧ (∀ j, j < k → C j = mks j (nn j)) ∧ (C k).take j = mks k j ∧ Gm w.heap.size wr (.slice aG N cG) N F C) ∧ Hid (Below w.heap.size w wr)) (fun x _ => nn k - (intOf x).toNat)
              case atStart => exact ⟨0, rfl, Nat.zero_le _, HM3, HB⟩
              case round =>
                clear HM3 HB
                obtain ⟨j, rfl, hj, HM, HB⟩ := hrel
                generalize wr = wb at *
                obtain ⟨C, c1, c2, c3, G⟩ := HM.out
                obtain ⟨qG, cG', eG, hqG, hnG, hmG, hcG⟩ := G.rG.open (by omega)
                injection eG with eG1 _ eG3
                subst eG1 eG3
                have d1 := hcG k hkN
                have hok := G.o k hkN
                have hfw := G.few k hkN
                rw [c1] at hok hfw
                by_cases hjn : j < nn k
                · have hjn' : (j : Int) < nn k := by omega
                  obtain ⟨gk, ck, yk, hFk, hbk, hnk, hmk, hlk, htk, hKk⟩ := ownS_blk hok (by omega)
                  rw [hFk] at d1
                  have G2 := G.mark (k := j) hkN hFk (by rw [c1]; exact hjn) (-5 - (k : Int))
                  have HM4 : Hid (∃ C, (∀ j, (C j).length = nn j) ∧ (∀ j, j < k → C j = mks j (nn j)) ∧ (C k).take (j + 1) = mks k (j + 1) ∧ Gm w.heap.size (wb.setCell ⟨gk, j, none⟩ (.int .i64 (-5 - (k : Int)))) (.slice (some ⟨qG, 0, none⟩) N cG) N F C) := by
                    refine ⟨_, fun q => ?_, fun q hq => ?_, ?_, G2⟩
                    · by_cases hqk : q = k
                      · subst hqk; rw [ext_at, List.length_set, c1]
                      · rw [ext_ne _ _ _ _ hqk, c1]
                    · rw [ext_ne _ _ _ _ (by omega), c2 q hq]
                    · have hlen : j < (C k).length := by rw [c1]; exact hjn
                      rw [ext_at, mks_succ, ← c3, List.take_add_one, List.take_set, List.set_eq_of_length_le (by simp; omega)]
                      simp [hlen]
                  have HB4 : Hid (Below w.heap.size w (wb.setCell ⟨gk, j, none⟩ (.int .i64 (-5 - (k : Int))))) := HB.out.trans (((Upd.refl (fun q => q = gk) wb).set ⟨gk, j, none⟩ (.int .i64 (-5 - (k : Int))) (.inl rfl)).below _ G.hB (fun q hq => by rw [hq]; exact hbk))
                  have f0 : wb.frozen? ⟨gk, j, none⟩ = false := hKk.frozen _
                  obtain ⟨u0, m0⟩ : ∃ u, wb.cell? ⟨gk, j, none⟩ = some u := by
                    rw [hKk.cell]
                    have : j < yk.length := by rw [hlk]; omega
                    exact ⟨_, List.getElem?_eq_getElem this⟩
                  have hck : (nn k : Int) ≤ ck := by omega
                  have hneg : IntKind.i64.wrap (-5 - (k : Int)) = -5 - k := i64w _ (by omega)
                  clear G2 G hok hbk htk hKk hcG c1 c2 c3 hFk HM HB
                  go_wp2
                  go_roundw
                  case rel => exact ⟨j + 1, by go_num, by omega, HM4, HB4⟩
                  case measure => simp [intOf]; omega
                · obtain rfl : j = nn k := by omega
                  obtain ⟨af, cf, hFk⟩ := own_form hok
                  rw [hFk] at d1
                  have HM5 : Hid (∃ C, (∀ j, (C j).length = nn j) ∧ (∀ j, j < k + 1 → C j = mks j (nn j)) ∧ Gm w.heap.size wb (.slice (some ⟨qG, 0, none⟩) N cG) N F C) := by
                    refine ⟨C, c1, fun q hq => ?_, G⟩
                    by_cases hqk : q = k
                    · subst hqk
                      rw [← c3, List.take_of_length_le (by rw [c1]; exact Nat.le_refl _)]
                    · exact c2 q (by omega)
                  clear G hok hcG c1 c2 c3 hFk HM
                  go_wp2
                  go_roundw
                  case rel => exact ⟨k + 1, by go_num, by omega, HM5, HB⟩
                  case measure => simp [intOf]; omega
            · obtain rfl : k = N := by omega
              have HX : Hid (∃ M, Gx w.heap.size wa (.slice aG k cG) (.slice none 0 0) k 0 F M nn) := by
                obtain ⟨C, c1, c2, G⟩ := HM.out
                exact ⟨F, Gx.begin (G.congr (fun j hj => c2 j hj))⟩
              clear HM
              generalize k = N at *
              go_wp2_with fail
              go_loopw [16, 17] (fun x18 x19 wr => ∃ (vM : Value) (k : Nat), vM = x18 ∧ x19 = .int .i64 k ∧ k ≤ N ∧ Hid (∃ M, Gx w.heap.size wr (.slice aG N cG) vM N k F M nn) ∧ Hid (Below w.heap.size w wr)) (fun _ x _ => N - (intOf x).toNat)
              case atStart => exact ⟨_, 0, rfl, rfl, Nat.zero_le _, HX, HB⟩
              case round =>
                clear HX HB
                obtain ⟨vM, k, rfl, rfl, hk, HX, HB⟩ := hrel
                generalize wr = wb at *
                obtain ⟨M, G⟩ := HX.out
                by_cases hkN : k < N
                · have hkN' : (k : Int) < N := by omega
                  obtain ⟨qG, cG', eG, hqG, hnG, hmG, hcG⟩ := G.g.rG.open (by omega)
                  injection eG with eG1 _ eG3
                  subst eG1 eG3
                  have d1 := hcG k hkN
                  have hok := G.g.o k hkN
                  have hfw := G.g.few k hkN
                  simp only [mks_len] at hok hfw
                  obtain ⟨af, cf, hFk⟩ := own_form hok
                  obtain ⟨g1, c1, w1, r1, g2, c2, w2, r2, G2, B2⟩ := G.step hkN (by omega)
                  rw [hFk] at r1 d1
                  have R1 := hide_ r1
                  have R2 := hide_ r2
                  have HX2 : Hid (∃ M, Gx w.heap.size w2 (.slice (some ⟨qG, 0, none⟩) N cG) (.slice (some ⟨g2, 0, none⟩) (k + 1) c2) N (k + 1) F M nn) := ⟨_, G2⟩
                  have HB2 := hide_ (HB.out.trans B2)
                  have hneg : IntKind.i64.wrap (-5 - (k : Int)) = -5 - k := i64w _ (by omega)
                  clear r1 r2 G2 B2 G hok hcG HX HB hFk
                  go_wp2_with (first
                    | (at_builtin; have _t := R1; refine wpList_append_run rfl (.tmp 109) (.tmp 112) 23 23 rfl rfl rfl R1.out ?_; clear R1)
                    | (at_builtin; have _t := R2; refine wpList_append_run rfl (.tmp 105) (.tmp 114) 34 34 rfl rfl rfl R2.out ?_; clear R2))
                  go_roundw
                  case rel => exact ⟨_, k + 1, rfl, by go_num, by omega, HX2, HB2⟩
                  case measure => simp [intOf]; omega
                · obtain rfl : k = N := by omega
                  obtain ⟨aM, cM, rfl⟩ := G.rM.form
                  have HX3 := hide_ G
                  clear HX G
                  generalize k = N at *
                  go_wp2_with fail
                  go_loop [18] (fun x => ∃ k : Nat, x = .int .i64 k ∧ k ≤ N) (fun x => N - (intOf x).toNat)
                  case atStart => exact ⟨0, rfl, Nat.zero_le _⟩
                  case round =>
                    obtain ⟨k, rfl, hk⟩ := hrel
                    by_cases hkN : k < N
                    · have hkN' : (k : Int) < N := by omega
                      go_wp2_with fail
                      go_loop [19] (fun x => ∃ j : Nat, x = .int .i64 j ∧ j ≤ nn k + 1) (fun x => nn k + 1 - (intOf x).toNat)
                      case atStart => exact ⟨0, rfl, Nat.zero_le _⟩
                      case round =>
                        obtain ⟨j, rfl, hj⟩ := hrel
                        have G := HX3.out
                        obtain ⟨qG, cG', eG, -, -, -, hcG⟩ := G.g.rG.open (by omega)
                        obtain ⟨qM, cM', eM, -, -, -, hcM⟩ := G.rM.open (by omega)
                        injection eG with eG1 _ eG3
                        injection eM with eM1 _ eM3
                        subst eG1 eM1 eG3 eM3
                        have d1 := hcG k hkN
                        have d2 := hcM k hkN
                        have ho := G.g.o k hkN
                        have hfw := G.g.few k hkN
                        have hom := G.oM k hkN
                        simp only [mks_len] at ho hfw
                        obtain ⟨af, cf, hFk⟩ := own_form ho
                        obtain ⟨am, cm, hMk, -, -, -, -, hgm⟩ := own_open hom (mks_len _ _)
                        obtain ⟨gm, rfl, -, -, hcm, -⟩ := hgm (by omega)
                        rw [hFk] at d1
                        rw [hMk] at d2
                        by_cases hjn : j < nn k + 1
                        · have hjn' : (j : Int) < ((nn k + 1 : Nat) : Int) := by omega
                          have t0 := hcm j hjn
                          rw [mks_at _ _ _ hjn] at t0
                          have hneg : IntKind.i64.wrap (-5 - (k : Int)) = -5 - k := i64w _ (by omega)
                          have hnn : ((-5 - (k : Int)) != (-5 - (k : Int))) = false := by simp
                          by_cases hjl : j < nn k
                          · have hjl' : (j : Int) < nn k := by omega
                            have hjd : decide ((j : Int) < (nn k : Int)) = true := decide_eq_true hjl'
                            obtain ⟨af2, cf2, hFk2, -, -, -, -, hgf⟩ := own_open ho (mks_len _ _)
                            obtain ⟨gf, rfl, -, -, hcf, -⟩ := hgf (by omega)
                            rw [hFk] at hFk2
                            injection hFk2 with hf1 _ hf3
                            subst hf1 hf3
                            have v0 := hcf j hjl
                            rw [mks_at _ _ _ hjl] at v0
                            clear ho hom hMk hFk G hcG hcM hcf hcm hgf hgm
                            go_wp2_with fail
                            go_round
                            case rel => exact ⟨j + 1, by go_num, by omega⟩
                            case measure => simp [intOf]; omega
                          · have hjl' : ¬ (j : Int) < nn k := by omega
                            have hjd : decide ((j : Int) < (nn k : Int)) = false := decide_eq_false hjl'
                            clear ho hom hMk hFk G hcG hcM hcm hgm
                            go_wp2_with fail
                            go_round
                            case rel => exact ⟨j + 1, by go_num, by omega⟩
                            case measure => simp [intOf]; omega
                        · obtain rfl : j = nn k + 1 := by omega
                          clear ho hom hMk hFk G hcG hcM hcm hgm
                          go_wp2_with fail
                          go_round
                          case rel => exact ⟨k + 1, by go_num, by omega⟩
                          case measure => simp [intOf]; omega
                    · obtain rfl : k = N := by omega
                      go_wp2
                      go_ret
                      exact ⟨rfl, HB.out⟩
end Go.Proofs.Ytnmffeeieclmfaa
