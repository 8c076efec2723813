import Derived.Test.YtiojpohmgjdgfaaPart15
import Derived.Test.YtiojpohmgjdgfaaPart01
import Derived.Deep.CutBlock
namespace Go.Proofs.Ytiojpohmgjdgfaa
open Go.RowKit
set_option linter.unusedVariables false
set_option linter.unusedSimpArgs false
theorem wr4 {w : World} {g : Nat} {a b c d : Value} (h : Blk w g 37 [a, b, c, d]) (x y z u : Value) : Blk ((((w.setCell ⟨g, 0, none⟩ x).setCell ⟨g, 1, none⟩ y).setCell ⟨g, 2, none⟩ z).setCell ⟨g, 3, none⟩ u) g 37 [x, y, z, u] := by
  have := (((h.set 0 x).set 1 y).set 2 z).set 3 u
  simpa using this
theorem below_wr4 {B : Nat} {w w' : World} (h : Below B w w') {g : Nat} (hg : B ≤ g) (x y z u : Value) : Below B w ((((w'.setCell ⟨g, 0, none⟩ x).setCell ⟨g, 1, none⟩ y).setCell ⟨g, 2, none⟩ z).setCell ⟨g, 3, none⟩ u) := below_set (below_set (below_set (below_set h _ _ _ hg) _ _ _ hg) _ _ _ hg) _ _ _ hg
theorem fld0 (a b : Value) (w : World) : (Instr.field 30 (.agg #[a, b]) 0).run Try.prog w = .ok a w := by kernel_rfl
theorem pre_put {enc : Bool} {nc ne : Int} {L : List In} {i : Nat} {y : In} (hi : i < L.length) (h : ∀ (j : Nat) (x : In), j < i → L[j]? = some x → Pre enc nc ne x) (hy : Pre enc nc ne y) : ∀ (j : Nat) (x : In), j < i + 1 → (L.set i y)[j]? = some x → Pre enc nc ne x := fun j x hj hx => by
  by_cases e : j = i
  · subst e
    rw [List.getElem?_set_self hi] at hx
    injection hx with hx
    rw [← hx]; exact hy
  · rw [List.getElem?_set_ne (by omega)] at hx
    exact h j x (by omega) hx
theorem ent_put {E : List Int} {i m : Nat} {n : Int} {r : Int} (hl : E.length = m) (h : ∀ j, j < m → 0 ≤ E.getD j 0 ∧ E.getD j 0 ≤ n) (a : 0 ≤ r) (b : r ≤ n) : ∀ j, j < m → 0 ≤ (E.set i r).getD j 0 ∧ (E.set i r).getD j 0 ≤ n := fun j hj => by
  by_cases e : i = j
  · subst e
    rw [List.getD, List.getElem?_set_self (by omega)]
    exact ⟨a, b⟩
  · rw [List.getD, List.getElem?_set_ne e]
    exact h j hj
structure Lp2 (enc : Bool) (n m i : Nat) (L : List In) : Prop where
  len : L.length = n + 1
  fr : ∀ j, j < i → frm enc L m j = true
  pr : ∀ (j : Nat) (x : In), i ≤ j → j < n → L[j]? = some x → Pre enc ((n + 1 : Nat) : Int) m x
  rt : L[n]? = some ⟨20, 0, 0, 0⟩
theorem Lp2.step {enc : Bool} {n m i : Nat} {L : List In} (h : Lp2 enc n m i L) (hi : i < n) {x : In} (hx : L[i]? = some x) (h8 : x.op ≠ 8) (h41 : x.op ≠ 41) : Lp2 enc n m (i + 1) L := by
  refine ⟨h.len, fun j hj => ?_, fun j y a b hy => h.pr j y (by omega) b hy, h.rt⟩
  rcases Nat.lt_or_ge j i with h' | h'
  · exact h.fr j h'
  · obtain rfl : j = i := by omega
    have := h.pr j x (Nat.le_refl _) hi hx
    rw [← h.len] at this
    exact preI_frm this hx h8 h41
theorem Lp2.put {enc : Bool} {n m i : Nat} {L : List In} (h : Lp2 enc n m i L) (hi : i < n) {x y : In} (hx : L[i]? = some x) (h8 : x.op = 8 ∨ x.op = 41) (hy : frm enc (L.set i y) m i = true) : Lp2 enc n m (i + 1) (L.set i y) := by
  refine ⟨by rw [List.length_set]; exact h.len, fun j hj => ?_, fun j z a b hz => ?_, by rw [List.getElem?_set_ne (by omega)]; exact h.rt⟩
  · rcases Nat.lt_or_ge j i with h' | h'
    · exact frm_set hx (by omega) (by omega) (h.fr j h')
    · obtain rfl : j = i := by omega
      exact hy
  · rw [List.getElem?_set_ne (by omega)] at hz
    exact h.pr j z (by omega) b hz
theorem Lp2.chk {enc : Bool} {n m : Nat} {L : List In} {E : List Int} (h : Lp2 enc n m n L) (hn : n ≤ 1000) (hm : E.length = m) (hm2 : m ≤ 1000) (he : ∀ j, j < m → 0 ≤ E.getD j 0 ∧ E.getD j 0 ≤ n) : Chk enc L E := by
  have hl := h.len
  refine ⟨by omega, by omega, fun i hi => ?_, fun i hi => ?_⟩
  · rw [hm]
    rcases Nat.lt_or_ge i n with h' | h'
    · exact h.fr i h'
    · obtain rfl : i = n := by omega
      exact frm_ret h.rt
  · have := he i (by omega)
    omega
theorem MkM.apart {w w' w'' : World} {enc : Bool} {pc pe : Value} {gc ge gA : Nat} {L : List In} {E : List Int} {ys : List Value} (h : MkM w w' enc pc pe gc ge L E) (hA : Blk w' gA 37 ys) (hne : gA ≠ gc) (hg : w.heap.size ≤ gA) (hu : Upd (fun k => k = gA) w' w'') : MkM w w'' enc pc pe gc ge L E :=
  ⟨h.p.upd hu (blk_nt h.p hA (by decide)), h.r.upd hu (blk_nt h.r hA (by decide)), h.o.upd hu (blk_nt h.o hA (by decide)), h.c.upd hu (fun e => hne e.symm), h.e.upd hu (blk_nt h.e hA (by decide)), h.b.trans (hu.below _ h.b.size (fun k hk => by omega)), h.lc, h.le⟩
set_option maxRecDepth 100000 in
set_option maxHeartbeats 16000000 in
theorem rmade_any (enc : Bool) (ac ae : Option Addr) (cc ce : Nat) (C0 : List In) (E0 : List Int) (most : Nat) (w : World) (hm : most ≤ 999) (hCl : C0.length ≤ 4398046511104) (hel : E0.length ≤ 17592186044415) (hcn : ac = none → cc = 0) (hen : ae = none → ce = 0) (hr : Hid (IRow w ac C0)) (he : Hid (Row .i64 w ae E0)) :
    Calls Try.prog 13 #[.agg #[.bool enc, .slice ac C0.length cc, .slice ae E0.length ce], .int .i64 (most : Int)] w (MadeTo enc most w) := by
  obtain ⟨w1, hw1⟩ : ∃ wx, wx = ((w.alloc (.cells #[.bool enc, .slice ac C0.length cc, .slice ae E0.length ce] 25)).alloc (.cells #[.bool false, .slice none 0 0, .slice none 0 0] 25)).alloc (.cells #[.bool enc, .slice none 0 0, .slice none 0 0] 25) := ⟨_, rfl⟩
  have hB1 : Below w.heap.size w w1 := by rw [hw1]; exact below3 _ _ _ _
  obtain ⟨kp, kr, ko⟩ := blk3 w #[.bool enc, .slice ac C0.length cc, .slice ae E0.length ce] #[.bool false, .slice none 0 0, .slice none 0 0] #[.bool enc, .slice none 0 0, .slice none 0 0] 25 25 25
  rw [← hw1] at kp kr ko
  have KP := hide_ kp
  have KR := hide_ kr
  have KO := hide_ ko
  have HB1 := hide_ hB1
  have p0 := kp.cell 0; have p1 := kp.cell 1; have p2 := kp.cell 2
  simp at p0 p1 p2
  have HCk := hide_ (rcheck_any enc ac ae cc ce C0 E0 w1 (by omega) (by omega) (hide_ (hr.out.later hB1)) (hide_ (he.out.later hB1)))
  clear hB1 kp kr ko
  go_enter Try.func13, Try.ntmps13
  go_upto_region 2 with fail
  rw [← hw1]
  clear hw1
  go_cut [40] from 18 to 40 (fun c wc => ∃ (d : Bool) (wf : World), wf = wc ∧ c = .bool d ∧ Hid (d = true → Chk enc C0 E0 ∧ 0 < C0.length ∧ C0.length ≤ most ∧ 0 < E0.length) ∧ Hid (Below w1.heap.size w1 wf))
  case first =>
    have fl := fld0
    by_cases h1 : 0 < C0.length
    case neg =>
      have h1' : ¬ (0 : Int) < C0.length := by omega
      go_wp2_with fail
      go_meet
      case rel => exact ⟨false, _, rfl, rfl, hide_ (fun h => by cases h), hide_ (Below.refl _ _)⟩
    have h1' : (0 : Int) < C0.length := by omega
    by_cases h2 : C0.length ≤ most
    case neg =>
      have h2' : ¬ (C0.length : Int) ≤ most := by omega
      go_wp2_with fail
      go_meet
      case rel => exact ⟨false, _, rfl, rfl, hide_ (fun h => by cases h), hide_ (Below.refl _ _)⟩
    have h2' : (C0.length : Int) ≤ most := by omega
    by_cases h3 : 0 < E0.length
    case neg =>
      have h3' : ¬ (0 : Int) < E0.length := by omega
      go_wp2_with fail
      go_meet
      case rel => exact ⟨false, _, rfl, rfl, hide_ (fun h => by cases h), hide_ (Below.refl _ _)⟩
    have h3' : (0 : Int) < E0.length := by omega
    have HK : Hid ((chk enc C0 E0).1 = 0 → Chk enc C0 E0) := hide_ (fun h => chk_ok.1 (chk_zero h))
    generalize (chk enc C0 E0).1 = k1 at *
    generalize (chk enc C0 E0).2 = k2 at *
    by_cases hk : k1 = 0
    · subst hk
      go_wp2_with (go_at_call 12; refine HCk.out.mono ?_; rintro e w2 ⟨rfl, hB2⟩; (have HB2 := hide_ hB2); clear hB2)
      go_meet
      case rel => exact ⟨true, _, rfl, rfl, hide_ (fun _ => ⟨HK.out (by first | trivial | rfl), h1, h2, h3⟩), HB2⟩
    · have hk' : (k1 == 0) = false := by simpa using hk
      clear hk
      go_wp2_with (go_at_call 12; refine HCk.out.mono ?_; rintro e w2 ⟨rfl, hB2⟩; (have HB2 := hide_ hB2); clear hB2)
      go_meet
      case rel => exact ⟨false, _, rfl, rfl, hide_ (fun h => by cases h), HB2⟩
  case rest =>
  obtain ⟨d, w2, rfl, rfl, HD, HB12⟩ := hcut
  have KP2 := hide_ (KP.out.later HB12.out)
  have KR2 := hide_ (KR.out.later HB12.out)
  have KO2 := hide_ (KO.out.later HB12.out)
  have HB2 := hide_ (below_to HB1.out HB12.out)
  clear p0 p1 p2 HCk KP KR KO HB1 HB12
  cases d with
  | true =>
    obtain ⟨hk, hc0, hcm, he0⟩ := HD.out rfl
    have HK := hide_ hk
    obtain ⟨vC, w3, hrun3, hO3, hB3⟩ := run_copyG (P := Try.prog) (t := 22) (e := 37) inc_len inc_one Try.underlying22 infoIn rfl (by decide) w2 ac C0.length cc C0 rfl (hr.out.later HB2.out) hcn (by unfold maxLen; omega) (by omega)
    obtain ⟨gC, capC, ysC, rfl, hgC, -, -, -, -, -⟩ := ownS_blk hO3 hc0
    have p1 := KP2.out.cell 1; have o1 := KO2.out.cell 1
    simp at p1 o1
    obtain ⟨w4, hw4⟩ : ∃ wx, wx = w3.setCell ⟨w.heap.size + 2, 1, none⟩ (.slice (some ⟨gC, 0, none⟩) C0.length capC) := ⟨_, rfl⟩
    have ko3 := KO2.out.later hB3
    have hU4 : Upd (fun k => k = w.heap.size + 2) w3 w4 := by rw [hw4]; exact (Upd.refl (fun k => k = w.heap.size + 2) w3).set ⟨w.heap.size + 2, 1, none⟩ _ (.inl rfl)
    have KO4 : Hid (Blk w4 (w.heap.size + 2) 25 [.bool enc, .slice (some ⟨gC, 0, none⟩) C0.length capC, .slice none 0 0]) := hide_ (by rw [hw4]; have := ko3.set 1 (.slice (some ⟨gC, 0, none⟩) C0.length capC); simpa using this)
    have KP4 := hide_ ((KP2.out.later hB3).upd hU4 (by omega))
    have KR4 := hide_ ((KR2.out.later hB3).upd hU4 (by omega))
    have HB4 : Hid (Below w.heap.size w w4) := hide_ ((below_to HB2.out hB3).trans (hU4.below _ (below_to HB2.out hB3).size (fun k hk => by omega)))
    have HO4 : Hid (COwn w4 w.heap.size (.slice (some ⟨gC, 0, none⟩) C0.length capC) C0) := hide_ (ownS_upd (own_base hO3 HB2.out.size) hU4 (fun k e hk => by subst hk; exact notC hO3 ko3 (by decide) e))
    have of3 := ko3.frozen 1
    have oc3 := ko3.cell 1
    simp at oc3
    clear hB3 hO3 hU4 ko3
    obtain ⟨vE, w5, hrun5, hO5, hG5⟩ := run_copy elI w4 23 w4.heap.size ae E0.length ce E0 rfl (he.out.later HB4.out) hen (by unfold maxLen; omega) (by omega) (Nat.le_refl _)
    have hB5 : Below w4.heap.size w4 w5 := ((Upd.refl (fun _ => False) w4).grown hG5 (fun k hk => by cases hk)).below _ (Nat.le_refl _) (fun k hk => hk.elim)
    obtain ⟨gE, capE, ysE, rfl, hgE, -, -, -, -, -⟩ := ownS_blk hO5 he0
    obtain ⟨w6, hw6⟩ : ∃ wx, wx = w5.setCell ⟨w.heap.size + 2, 2, none⟩ (.slice (some ⟨gE, 0, none⟩) E0.length capE) := ⟨_, rfl⟩
    have ko5 := KO4.out.later hB5
    have hU6 : Upd (fun k => k = w.heap.size + 2) w5 w6 := by rw [hw6]; exact (Upd.refl (fun k => k = w.heap.size + 2) w5).set ⟨w.heap.size + 2, 2, none⟩ _ (.inl rfl)
    have KO6 : Hid (Blk w6 (w.heap.size + 2) 25 [.bool enc, .slice (some ⟨gC, 0, none⟩) C0.length capC, .slice (some ⟨gE, 0, none⟩) E0.length capE]) := hide_ (by rw [hw6]; have := ko5.set 2 (.slice (some ⟨gE, 0, none⟩) E0.length capE); simpa using this)
    have KR6 := hide_ ((KR4.out.later hB5).upd hU6 (by omega))
    have HB6 : Hid (Below w.heap.size w w6) := hide_ ((below_to HB4.out hB5).trans (hU6.below _ (below_to HB4.out hB5).size (fun k hk => by omega)))
    have HC6 : Hid (COwn w6 w.heap.size (.slice (some ⟨gC, 0, none⟩) C0.length capC) C0) := hide_ (ownS_upd (HO4.out.later hB5) hU6 (fun k e hk => by subst hk; exact notC (HO4.out.later hB5) ko5 (by decide) e))
    have HE6 : Hid (IOwn w6 w.heap.size (.slice (some ⟨gE, 0, none⟩) E0.length capE) E0) := hide_ (IOwn.upd (own_base hO5 HB4.out.size) hU6 (fun k e hk => by subst hk; exact notI (B := w4.heap.size) hO5 ko5 (by decide) e))
    have of5 := ko5.frozen 2
    have oc5 := ko5.cell 2
    simp at oc5
    have p2 := KP4.out.cell 2; have o2 := KO4.out.cell 2
    simp at p2 o2
    clear hB5 hO5 hG5 hU6 ko5 KP4 KR4 HB4 HO4
    have HR3 := hide_ hrun3
    have HR5 := hide_ hrun5
    clear hrun3 hrun5
    go_upto_region 4 with (at_builtin; have _t := HR3; refine wpList_append_run rfl (.tmp 42) (.tmp 44) 22 22 rfl rfl rfl HR3.out ?_; clear HR3)
    rw [← hw4]
    clear hw4 p1 o1 oc3 of3
    go_upto_region 5 with (at_builtin; have _t := HR5; refine wpList_append_run rfl (.tmp 48) (.tmp 50) 23 23 rfl rfl rfl HR5.out ?_; clear HR5)
    rw [← hw6]
    clear hw6 p2 o2 oc5 of5
    have o0 := KO6.out.cell 0; have o1 := KO6.out.cell 1; have o2 := KO6.out.cell 2
    have r0 := KR6.out.cell 0; have r1 := KR6.out.cell 1; have r2 := KR6.out.cell 2
    have rf := fun i => KR6.out.frozen i
    simp at o0 o1 o2 r0 r1 r2
    go_wp2
    exact self_ret rfl rfl KR6.out HC6.out HE6.out HB6.out HK.out hc0 hcm he0
  | false =>
    obtain ⟨n, hn⟩ : ∃ n, n = min C0.length most := ⟨_, rfl⟩
    obtain ⟨m, hmm⟩ : ∃ m, m = min E0.length 20 + 1 := ⟨_, rfl⟩
    have hn1 : n ≤ C0.length := by omega
    have hn2 : n ≤ most := by omega
    have hm1 : 1 ≤ m := by omega
    have hm21 : m ≤ 21 := by omega
    have hmin1 : min (C0.length : Int) (most : Int) = (n : Int) := by omega
    have hmin2 : min (E0.length : Int) 20 = ((m - 1 : Nat) : Int) := by omega
    have hmi1 : ∀ (ts : Array TypeId) (t : TypeId) (wx : World), (Builtin.min_ ts t #[.int .i64 (C0.length : Int), .int .i64 (most : Int)]).run Try.prog wx = .ok (.int .i64 (n : Int)) wx := fun ts t wx => by
      rw [run_min_int2]
      congr 2
      split <;> omega
    have hmi2 : ∀ (ts : Array TypeId) (t : TypeId) (wx : World), (Builtin.min_ ts t #[.int .i64 (E0.length : Int), .int .i64 20]).run Try.prog wx = .ok (.int .i64 ((m - 1 : Nat) : Int)) wx := fun ts t wx => by
      rw [run_min_int2]
      congr 2
      split <;> omega
    have hle1 : n + 1 ≤ 1000000000 := by omega
    have hle2 : m ≤ 1000000000 := by omega
    have hMC := makeC (n + 1) hle1
    have hME := makeE m hle2
    rw [show ((n + 1 : Nat) : Int) = (n : Int) + 1 by omega] at hMC
    rw [show (m : Int) = ((m - 1 : Nat) : Int) + 1 by omega] at hME
    clear hle1 hle2
    have HC0 := hide_ (madeC0 (n + 1))
    have HE0 := hide_ (madeE0 m)
    generalize madeCells #[.int .i64 0, .int .i64 0, .int .i64 0, .int .i64 0] ((n + 1) * 4) = cC at *
    generalize madeCells #[.int .i64 0] m = cE at *
    have HNm : Hid (n = min C0.length most) := hide_ hn
    have HMm : Hid (m = min E0.length 20 + 1) := hide_ hmm
    clear hn hmm HD
    have p1 := KP2.out.cell 1; have p2 := KP2.out.cell 2
    simp at p1 p2
    obtain ⟨wb, hwb⟩ : ∃ wx, wx = (w2.alloc (.cells cC 37)).setCell ⟨w.heap.size + 2, 1, none⟩ (.slice (some ⟨w2.heap.size, 0, none⟩) (n + 1) (n + 1)) := ⟨_, rfl⟩
    have HMk := hide_ (mkm_of KP2.out KR2.out KO2.out HB2.out (n + 1) m HC0.out HE0.out hwb)
    obtain ⟨w3, hw3⟩ : ∃ wx, wx = (wb.alloc (.cells cE 3)).setCell ⟨w.heap.size + 2, 2, none⟩ (.slice (some ⟨wb.heap.size, 0, none⟩) m m) := ⟨_, rfl⟩
    rw [← hw3] at HMk
    have a1 := (KO2.out.alloc (.cells cC 37)).cell 1
    have a2 := (KO2.out.alloc (.cells cC 37)).frozen 1
    simp at a1
    have kob : Blk wb (w.heap.size + 2) 25 [.bool enc, .slice (some ⟨w2.heap.size, 0, none⟩) (n + 1) (n + 1), .slice none 0 0] := by
      rw [hwb]
      have := (KO2.out.alloc (.cells cC 37)).set 1 (.slice (some ⟨w2.heap.size, 0, none⟩) (n + 1) (n + 1))
      simpa using this
    have kpb : Blk wb w.heap.size 25 [.bool enc, .slice ac C0.length cc, .slice ae E0.length ce] := by rw [hwb]; exact (KP2.out.alloc _).other _ _ (by show w.heap.size ≠ w.heap.size + 2; omega)
    have b1 := kpb.cell 2
    have b2 := (kob.alloc (.cells cE 3)).cell 2
    have b3 := (kob.alloc (.cells cE 3)).frozen 2
    simp at b1 b2
    clear kob kpb
    have hw1 : wrap64 ((n : Int) + 1) = (n : Int) + 1 := w64 _ (by omega)
    have hw2 : wrap64 (((m - 1 : Nat) : Int) + 1) = ((m - 1 : Nat) : Int) + 1 := w64 _ (by omega)
    go_upto_region 8 with fail
    rw [← hwb]
    clear hwb a1 a2 p1 p2 hMC
    go_upto_region 9 with fail
    rw [← hw3]
    clear hw3 b1 b2 b3 hME HC0 HE0 KP2 KR2 KO2 HB2 hw1 hw2
    generalize w2.heap.size = gc at *
    generalize wb.heap.size = ge at *
    go_wp2_with fail
    go_loopw [7] (fun x7 wr => ∃ (i : Nat) (L : List In), i ≤ n ∧ x7 = .int .i64 (i : Int) ∧ Hid (MkM w wr enc (.slice ac C0.length cc) (.slice ae E0.length ce) gc ge L (List.replicate m 0)) ∧ Hid (L.length = n + 1) ∧ Hid (∀ (j : Nat) (x : In), j < i → L[j]? = some x → Pre enc ((n + 1 : Nat) : Int) m x)) (fun x7 _ => n - (intOf x7).toNat)
    case atStart => exact ⟨0, List.replicate (n + 1) in0, Nat.zero_le _, rfl, HMk, hide_ (by simp), hide_ (fun j x hj => by omega)⟩
    case round =>
      obtain ⟨i, L, hi, rfl, HMq, HLl, HPr⟩ := hrel
      generalize wr = wq at *
      by_cases hlt : i < n
      · have hlt' : (i : Int) < n := by omega
        have hiC : i < C0.length := by omega
        have hiC' : (i : Int) < C0.length := by omega
        have hiL : i < L.length := by have := HLl.out; omega
        have hiL' : (i : Int) < L.length := by omega
        obtain ⟨bC, oC, rfl, hbC, -⟩ := hr.out.open (by omega)
        have HRw := hide_ (hr.out.later HMq.out.b)
        have hx0 : C0[i]? = some (C0[i]'hiC) := List.getElem?_eq_getElem hiC
        have HX0 := hide_ hx0
        generalize C0[i]'hiC = x0 at *
        clear hx0
        have hq := IRow.at HRw.out HX0.out
        have q0 := hq.1
        clear hq
        have p0 := HMq.out.p.cell 0; have p1 := HMq.out.p.cell 1
        simp at p0 p1
        have HBt := hide_ (fun w' => brought_any x0.op 1 20 w' (by omega) (by omega) (by omega))
        have HBu := hide_ (fun w' => brought_any x0.op 33 47 w' (by omega) (by omega) (by omega))
        go_upto_region 13 with (go_at_call 21; refine (HBt.out _).mono ?_; rintro e w' ⟨o1, oa, ob, rfl, rfl⟩)
        go_cut [91] from 82 to 91 (fun c wc => ∃ (d : Bool), c = .bool d ∧ wq = wc ∧ Hid (d = (enc && (o1 != 9 && decide (o1 < 19)))))
        case first =>
          cases enc with
          | false =>
            go_wp2_with fail
            go_meet
            case rel => exact ⟨false, rfl, rfl, hide_ rfl⟩
          | true =>
            by_cases h9 : o1 = 9
            · subst h9
              go_wp2_with fail
              go_meet
              case rel => exact ⟨false, rfl, rfl, hide_ rfl⟩
            · have h9' : (o1 != 9) = true := by simpa using h9
              by_cases h19 : o1 < 19
              · go_wp2_with fail
                go_meet
                case rel => exact ⟨true, rfl, rfl, hide_ (by rw [h9', decide_eq_true (by omega : o1 < 19)]; rfl)⟩
              · go_wp2_with fail
                go_meet
                case rel => exact ⟨false, rfl, rfl, hide_ (by rw [h9', decide_eq_false (by omega : ¬ o1 < 19)]; rfl)⟩
        case rest =>
        obtain ⟨d, rfl, rfl, HD⟩ := hcut
        go_upto_if 91 with fail
        go_cut [8] from 92 to 98 (fun x8 wc => ∃ (op : Int), x8 = .int .i64 op ∧ wq = wc ∧ Hid (isOf op enc = true))
        case first =>
          cases d with
          | true =>
            have he1 : enc = true := by
              have := HD.out
              cases enc with
              | false => cases this
              | true => rfl
            subst he1
            go_wp2_with (go_at_call 21; refine (HBu.out _).mono ?_; rintro e w' ⟨o2, oc, od, rfl, rfl⟩)
            go_meet
            case rel => exact ⟨o2, rfl, rfl, hide_ (by unfold isOf; simp; omega)⟩
          | false =>
            go_wp2_with fail
            go_meet
            case rel => exact ⟨o1, rfl, rfl, hide_ (by
              have := HD.out
              unfold isOf
              cases enc with
              | false => simp; omega
              | true =>
                simp at this
                simp
                omega)⟩
        case rest =>
        obtain ⟨op, rfl, rfl, HOp⟩ := hcut
        clear HBt HBu HD oa ob
        have HOf := hide_ (of_any op enc wq)
        obtain ⟨sN, hsN⟩ : ∃ s, ofN op enc = s := ⟨_, rfl⟩
        obtain ⟨l0, l1, l2, hl⟩ := three (ofI_kat HOp.out (j := 0) (by omega)).1
        have hsl : ofL op enc = ⟨#[l0, l1, l2]⟩ := by unfold ofL; rw [if_pos HOp.out, hl]
        rw [hsN, hsl, HOp.out] at HOf
        have HN := hide_ hsN
        have k0 := ofI_kat HOp.out (j := 0) (by omega)
        have k1 := ofI_kat HOp.out (j := 1) (by omega)
        have k2 := ofI_kat HOp.out (j := 2) (by omega)
        rw [hl] at k0 k1 k2
        simp only [List.getD_cons_zero, List.getD_cons_succ, kat] at k0 k1 k2
        have HMd := hide_ (fun (c : UInt8) (z : Int) (hc : lts.contains c = true) w' => mde_any enc (some ⟨gc, 0, none⟩) (some ⟨ge, 0, none⟩) L.length L.length m m c z w' (by have := HLl.out; omega) (by omega) (by omega) (by omega) hc)
        have HM0' := fun w' => HMd.out l0 x0.a k0.2.1 w'
        have HM1' := fun w' => HMd.out l1 x0.b k1.2.1 w'
        have HM2' := fun w' => HMd.out l2 x0.c k2.2.1 w'
        rw [k0.2.2] at HM0'
        rw [k1.2.2] at HM1'
        rw [k2.2.2] at HM2'
        have HM0 := hide_ HM0'
        have HM1 := hide_ HM1'
        have HM2 := hide_ HM2'
        clear HM0' HM1' HM2' k0 k1 k2 hl hsl hsN HMd
        go_wp2_with fail
        refine HOf.out.mono ?_
        rintro e w4 ⟨rfl, hB4⟩
        obtain ⟨w5, hw5⟩ : ∃ wx, wx = w4.alloc (.cells #[.string sN, .string ⟨#[l0, l1, l2]⟩] 56) := ⟨_, rfl⟩
        have hB5 : Below w4.heap.size w4 w5 := by rw [hw5]; exact below1 _ _
        have K6 : Hid (Blk w5 w4.heap.size 56 [.string sN, .string ⟨#[l0, l1, l2]⟩]) := hide_ (by rw [hw5]; exact Blk.newA w4 _ _)
        have HMk5 := hide_ (HMq.out.later (below_to hB4 hB5))
        have HR5 := hide_ (HRw.out.later (below_to hB4 hB5))
        clear hB4 hB5 HOf q0 p0 p1
        go_upto_region 16 with fail
        rw [← hw5]
        clear hw5
        generalize hg6 : w4.heap.size = g6 at *
        clear hg6
        have HSS : Hid (∀ w', Below w5.heap.size w5 w' → (fun w' => w'.cell? ⟨w.heap.size + 2, 0, none⟩ = some (.bool enc) ∧ w'.cell? ⟨w.heap.size + 2, 1, none⟩ = some (.slice (some ⟨gc, 0, none⟩) L.length L.length) ∧ w'.cell? ⟨w.heap.size + 2, 2, none⟩ = some (.slice (some ⟨ge, 0, none⟩) m m) ∧ w'.cell? ⟨w.heap.size, 1, none⟩ = some (.slice (some ⟨bC, oC, none⟩) C0.length cc) ∧ w'.cell? ⟨bC, oC + i * 4 + 1, none⟩ = some (.int .i64 x0.a) ∧ w'.cell? ⟨bC, oC + i * 4 + 2, none⟩ = some (.int .i64 x0.b) ∧ w'.cell? ⟨bC, oC + i * 4 + 3, none⟩ = some (.int .i64 x0.c) ∧ w'.cell? ⟨g6, 1, none⟩ = some (.string ⟨#[l0, l1, l2]⟩)) w') := hide_ (fun w' hB => ⟨(HMk5.out.later hB).o.cell 0, (HMk5.out.later hB).o.cell 1, by have := (HMk5.out.later hB).o.cell 2; simpa using this, (HMk5.out.later hB).p.cell 1, (IRow.at (HR5.out.later hB) HX0.out).2.1, (IRow.at (HR5.out.later hB) HX0.out).2.2.1, (IRow.at (HR5.out.later hB) HX0.out).2.2.2, (K6.out.later hB).cell 1⟩)
        have ix0 := ix_s0 l0 l1 l2
        have ix1 := ix_s1 l0 l1 l2
        have ix2 := ix_s2 l0 l1 l2
        go_cut [11] from 106 to 140 (fun x11 wc => ∃ (gA : Nat) (r0 r1 r2 : Int) (wf : World), wf = wc ∧ x11 = .pointer (some ⟨gA, 0, none⟩) ∧ Hid (Mdo L.length m (kin op).1 r0) ∧ Hid (Mdo L.length m (kin op).2.1 r1) ∧ Hid (Mdo L.length m (kin op).2.2 r2) ∧ Hid (Blk wf gA 37 [.int .i64 op, .int .i64 r0, .int .i64 r1, .int .i64 r2]) ∧ Hid (w5.heap.size ≤ gA) ∧ Hid (Below w5.heap.size w5 wf))
        case first =>
          refine wp_region_last 36 (fun w' => w'.cell? ⟨w.heap.size + 2, 0, none⟩ = some (.bool enc) ∧ w'.cell? ⟨w.heap.size + 2, 1, none⟩ = some (.slice (some ⟨gc, 0, none⟩) L.length L.length) ∧ w'.cell? ⟨w.heap.size + 2, 2, none⟩ = some (.slice (some ⟨ge, 0, none⟩) m m) ∧ w'.cell? ⟨w.heap.size, 1, none⟩ = some (.slice (some ⟨bC, oC, none⟩) C0.length cc) ∧ w'.cell? ⟨bC, oC + i * 4 + 1, none⟩ = some (.int .i64 x0.a) ∧ w'.cell? ⟨bC, oC + i * 4 + 2, none⟩ = some (.int .i64 x0.b) ∧ w'.cell? ⟨bC, oC + i * 4 + 3, none⟩ = some (.int .i64 x0.c) ∧ w'.cell? ⟨g6, 1, none⟩ = some (.string ⟨#[l0, l1, l2]⟩)) (by kernel_rfl) (HSS.out _ ((Below.refl w5.heap.size w5).drew)) (fun hHeld => ?_)
          refine wpAnyF_take [36] (by kernel_rfl) (i := 0) (v := ?vm1) rfl (by kernel_rfl) (by kernel_rfl) (by kernel_rfl) (fun _ _ _ h => h) (Or.inl ⟨by kernel_rfl, ?hym1⟩) hHeld ?restm1
          case hym1 => intro w' hSw; (try dsimp only at hSw); go_simp; try with_reducible rfl
          simp only [Act.put]
          refine wpAnyF_take [36] (by kernel_rfl) (i := 1) (v := ?vm2) rfl (by kernel_rfl) (by kernel_rfl) (by kernel_rfl) (fun _ _ _ h => h) (Or.inl ⟨by kernel_rfl, ?hym2⟩) hHeld ?restm2
          case hym2 => intro w' hSw; (try dsimp only at hSw); go_simp; try with_reducible rfl
          simp only [Act.put]
          refine wpAnyF_take [36] (by kernel_rfl) (i := 2) (v := ?vm3) rfl (by kernel_rfl) (by kernel_rfl) (by kernel_rfl) (fun _ _ _ h => h) (Or.inl ⟨by kernel_rfl, ?hym3⟩) hHeld ?restm3
          case hym3 => intro w' hSw; (try dsimp only at hSw); go_simp; try with_reducible rfl
          simp only [Act.put]
          refine wpAnyF_take [36] (by kernel_rfl) (i := 3) (v := ?vm4) rfl (by kernel_rfl) (by kernel_rfl) (by kernel_rfl) (fun _ _ _ h => h) (Or.inl ⟨by kernel_rfl, ?hym4⟩) hHeld ?restm4
          case hym4 => intro w' hSw; (try dsimp only at hSw); go_simp; try with_reducible rfl
          simp only [Act.put]
          refine wpAnyF_take [36] (by kernel_rfl) (i := 4) (v := ?vm5) rfl (by kernel_rfl) (by kernel_rfl) (by kernel_rfl) (fun _ _ _ h => h) (Or.inl ⟨by kernel_rfl, ?hym5⟩) hHeld ?restm5
          case hym5 => intro w' hSw; (try dsimp only at hSw); go_simp; try with_reducible rfl
          simp only [Act.put]
          refine wpAnyF_take [36] (by kernel_rfl) (i := 5) (v := ?vm6) rfl (by kernel_rfl) (by kernel_rfl) (by kernel_rfl) (fun _ _ _ h => h) (Or.inl ⟨by kernel_rfl, ?hym6⟩) hHeld ?restm6
          case hym6 => intro w' hSw; (try dsimp only at hSw); go_simp; try with_reducible rfl
          simp only [Act.put]
          refine wpAnyF_take [36] (by kernel_rfl) (i := 6) (v := ?vm7) rfl (by kernel_rfl) (by kernel_rfl) (by kernel_rfl) (fun _ _ _ h => h) (Or.inl ⟨by kernel_rfl, ?hym7⟩) hHeld ?restm7
          case hym7 => intro w' hSw; (try dsimp only at hSw); go_simp; try with_reducible rfl
          simp only [Act.put]
          refine wpAnyF_take [36] (by kernel_rfl) (i := 7) (v := ?vm8) rfl (by kernel_rfl) (by kernel_rfl) (by kernel_rfl) (fun _ _ _ h => h) (Or.inl ⟨by kernel_rfl, ?hym8⟩) hHeld ?restm8
          case hym8 => intro w' hSw; (try dsimp only at hSw); go_simp; try with_reducible rfl
          simp only [Act.put]
          refine wpAnyF_take [36] (by kernel_rfl) (i := 8) (v := ?vm9) rfl (by kernel_rfl) (by kernel_rfl) (by kernel_rfl) (fun _ _ _ h => h) (Or.inl ⟨by kernel_rfl, ?hym9⟩) hHeld ?restm9
          case hym9 => intro w' hSw; (try dsimp only at hSw); go_simp; try with_reducible rfl
          simp only [Act.put]
          refine wpAnyF_take [36] (by kernel_rfl) (i := 9) (v := ?vm10) rfl (by kernel_rfl) (by kernel_rfl) (by kernel_rfl) (fun _ _ _ h => h) (Or.inl ⟨by kernel_rfl, ?hym10⟩) hHeld ?restm10
          case hym10 => intro w' hSw; (try dsimp only at hSw); go_simp; try with_reducible rfl
          simp only [Act.put]
          refine wpAnyF_take [36] (by kernel_rfl) (i := 10) (v := ?vm11) rfl (by kernel_rfl) (by kernel_rfl) (by kernel_rfl) (fun _ _ _ h => h) (Or.inl ⟨by kernel_rfl, ?hym11⟩) hHeld ?restm11
          case hym11 => intro w' hSw; (try dsimp only at hSw); go_simp; try with_reducible rfl
          simp only [Act.put]
          refine wpAnyF_take [36] (by kernel_rfl) (i := 12) (v := ?vm12) rfl (by kernel_rfl) (by kernel_rfl) (by kernel_rfl) (fun _ _ _ h => h) (Or.inl ⟨by kernel_rfl, ?hym12⟩) hHeld ?restm12
          case hym12 => intro w' hSw; (try dsimp only at hSw); go_simp; try with_reducible rfl
          simp only [Act.put]
          refine wpAnyF_take [36] (by kernel_rfl) (i := 13) (v := ?vm13) rfl (by kernel_rfl) (by kernel_rfl) (by kernel_rfl) (fun _ _ _ h => h) (Or.inl ⟨by kernel_rfl, ?hym13⟩) hHeld ?restm13
          case hym13 => intro w' hSw; (try dsimp only at hSw); go_simp; try with_reducible rfl
          simp only [Act.put]
          refine wpAnyF_take [36] (by kernel_rfl) (i := 14) (v := ?vm14) rfl (by kernel_rfl) (by kernel_rfl) (by kernel_rfl) (fun _ _ _ h => h) (Or.inl ⟨by kernel_rfl, ?hym14⟩) hHeld ?restm14
          case hym14 => intro w' hSw; (try dsimp only at hSw); go_simp; try with_reducible rfl
          simp only [Act.put]
          refine wpAnyF_take [36] (by kernel_rfl) (i := 15) (v := ?vm15) rfl (by kernel_rfl) (by kernel_rfl) (by kernel_rfl) (fun _ _ _ h => h) (Or.inl ⟨by kernel_rfl, ?hym15⟩) hHeld ?restm15
          case hym15 => intro w' hSw; (try dsimp only at hSw); go_simp; try with_reducible rfl
          simp only [Act.put]
          refine wpAnyF_take [36] (by kernel_rfl) (i := 16) (v := ?vm16) rfl (by kernel_rfl) (by kernel_rfl) (by kernel_rfl) (fun _ _ _ h => h) (Or.inl ⟨by kernel_rfl, ?hym16⟩) hHeld ?restm16
          case hym16 => intro w' hSw; (try dsimp only at hSw); go_simp; try with_reducible rfl
          simp only [Act.put]
          refine wpAnyF_take [36] (by kernel_rfl) (i := 17) (v := ?vm17) rfl (by kernel_rfl) (by kernel_rfl) (by kernel_rfl) (fun _ _ _ h => h) (Or.inl ⟨by kernel_rfl, ?hym17⟩) hHeld ?restm17
          case hym17 => intro w' hSw; (try dsimp only at hSw); go_simp; try with_reducible rfl
          simp only [Act.put]
          refine wpAnyF_take [36] (by kernel_rfl) (i := 18) (v := ?vm18) rfl (by kernel_rfl) (by kernel_rfl) (by kernel_rfl) (fun _ _ _ h => h) (Or.inl ⟨by kernel_rfl, ?hym18⟩) hHeld ?restm18
          case hym18 => intro w' hSw; (try dsimp only at hSw); go_simp; try with_reducible rfl
          simp only [Act.put]
          refine wpAnyF_take [36] (by kernel_rfl) (i := 19) (v := ?vm19) rfl (by kernel_rfl) (by kernel_rfl) (by kernel_rfl) (fun _ _ _ h => h) (Or.inl ⟨by kernel_rfl, ?hym19⟩) hHeld ?restm19
          case hym19 => intro w' hSw; (try dsimp only at hSw); go_simp; try with_reducible rfl
          simp only [Act.put]
          refine wpAnyF_take [36] (by kernel_rfl) (i := 20) (v := ?vm20) rfl (by kernel_rfl) (by kernel_rfl) (by kernel_rfl) (fun _ _ _ h => h) (Or.inl ⟨by kernel_rfl, ?hym20⟩) hHeld ?restm20
          case hym20 => intro w' hSw; (try dsimp only at hSw); go_simp; try with_reducible rfl
          simp only [Act.put]
          refine wpAnyF_take [36] (by kernel_rfl) (i := 21) (v := ?vm21) rfl (by kernel_rfl) (by kernel_rfl) (by kernel_rfl) (fun _ _ _ h => h) (Or.inl ⟨by kernel_rfl, ?hym21⟩) hHeld ?restm21
          case hym21 => intro w' hSw; (try dsimp only at hSw); go_simp; try with_reducible rfl
          simp only [Act.put]
          refine wpAnyF_take [36] (by kernel_rfl) (i := 23) (v := ?vm22) rfl (by kernel_rfl) (by kernel_rfl) (by kernel_rfl) (fun _ _ _ h => h) (Or.inl ⟨by kernel_rfl, ?hym22⟩) hHeld ?restm22
          case hym22 => intro w' hSw; (try dsimp only at hSw); go_simp; try with_reducible rfl
          simp only [Act.put]
          refine wpAnyF_take [36] (by kernel_rfl) (i := 24) (v := ?vm23) rfl (by kernel_rfl) (by kernel_rfl) (by kernel_rfl) (fun _ _ _ h => h) (Or.inl ⟨by kernel_rfl, ?hym23⟩) hHeld ?restm23
          case hym23 => intro w' hSw; (try dsimp only at hSw); go_simp; try with_reducible rfl
          simp only [Act.put]
          refine wpAnyF_take [36] (by kernel_rfl) (i := 25) (v := ?vm24) rfl (by kernel_rfl) (by kernel_rfl) (by kernel_rfl) (fun _ _ _ h => h) (Or.inl ⟨by kernel_rfl, ?hym24⟩) hHeld ?restm24
          case hym24 => intro w' hSw; (try dsimp only at hSw); go_simp; try with_reducible rfl
          simp only [Act.put]
          refine wpAnyF_take [36] (by kernel_rfl) (i := 26) (v := ?vm25) rfl (by kernel_rfl) (by kernel_rfl) (by kernel_rfl) (fun _ _ _ h => h) (Or.inl ⟨by kernel_rfl, ?hym25⟩) hHeld ?restm25
          case hym25 => intro w' hSw; (try dsimp only at hSw); go_simp; try with_reducible rfl
          simp only [Act.put]
          refine wpAnyF_take [36] (by kernel_rfl) (i := 27) (v := ?vm26) rfl (by kernel_rfl) (by kernel_rfl) (by kernel_rfl) (fun _ _ _ h => h) (Or.inl ⟨by kernel_rfl, ?hym26⟩) hHeld ?restm26
          case hym26 => intro w' hSw; (try dsimp only at hSw); go_simp; try with_reducible rfl
          simp only [Act.put]
          refine wpAnyF_take [36] (by kernel_rfl) (i := 28) (v := ?vm27) rfl (by kernel_rfl) (by kernel_rfl) (by kernel_rfl) (fun _ _ _ h => h) (Or.inl ⟨by kernel_rfl, ?hym27⟩) hHeld ?restm27
          case hym27 => intro w' hSw; (try dsimp only at hSw); go_simp; try with_reducible rfl
          simp only [Act.put]
          refine wpAnyF_take [36] (by kernel_rfl) (i := 29) (v := ?vm28) rfl (by kernel_rfl) (by kernel_rfl) (by kernel_rfl) (fun _ _ _ h => h) (Or.inl ⟨by kernel_rfl, ?hym28⟩) hHeld ?restm28
          case hym28 => intro w' hSw; (try dsimp only at hSw); go_simp; try with_reducible rfl
          simp only [Act.put]
          refine wpAnyF_take [36] (by kernel_rfl) (i := 30) (v := ?vm29) rfl (by kernel_rfl) (by kernel_rfl) (by kernel_rfl) (fun _ _ _ h => h) (Or.inl ⟨by kernel_rfl, ?hym29⟩) hHeld ?restm29
          case hym29 => intro w' hSw; (try dsimp only at hSw); go_simp; try with_reducible rfl
          simp only [Act.put]
          refine wpAnyF_take [36] (by kernel_rfl) (i := 31) (v := ?vm30) rfl (by kernel_rfl) (by kernel_rfl) (by kernel_rfl) (fun _ _ _ h => h) (Or.inl ⟨by kernel_rfl, ?hym30⟩) hHeld ?restm30
          case hym30 => intro w' hSw; (try dsimp only at hSw); go_simp; try with_reducible rfl
          simp only [Act.put]
          refine wpAnyF_take [36] (by kernel_rfl) (i := 32) (v := ?vm31) rfl (by kernel_rfl) (by kernel_rfl) (by kernel_rfl) (fun _ _ _ h => h) (Or.inl ⟨by kernel_rfl, ?hym31⟩) hHeld ?restm31
          case hym31 => intro w' hSw; (try dsimp only at hSw); go_simp; try with_reducible rfl
          simp only [Act.put]
          refine wpAnyF_ready (rs := [11, 35]) (by kernel_rfl) (by simp) ?_
          refine AllReadyF.cons rfl (fun K hK => ?_) ?_
          · go_simp
            refine (HM0.out _).mono ?_
            rintro e wC0 ⟨r0, hm0, rfl, hbC⟩
            dsimp only
            have HR0 := hide_ hm0
            have HX := hide_ (below_to ((Below.refl w5.heap.size w5).drew) hbC)
            clear hbC hm0
            refine hK.out _ _ (HSS.out _ HX.out) (fun hHeld => ?_)
            clear hK K
            refine wpAnyF_ready (rs := [22, 35]) (by kernel_rfl) (by simp) ?_
            refine AllReadyF.cons rfl (fun K hK => ?_) ?_
            · go_simp
              refine (HM1.out _).mono ?_
              rintro e wC1 ⟨r1, hm1, rfl, hbC⟩
              dsimp only
              have HR1 := hide_ hm1
              have HX := hide_ (below_to (HX.out) hbC)
              clear hbC hm1
              refine hK.out _ _ (HSS.out _ HX.out) (fun hHeld => ?_)
              clear hK K
              refine wpAnyF_ready (rs := [33, 35]) (by kernel_rfl) (by simp) ?_
              refine AllReadyF.cons rfl (fun K hK => ?_) ?_
              · go_simp
                refine (HM2.out _).mono ?_
                rintro e wC2 ⟨r2, hm2, rfl, hbC⟩
                dsimp only
                have HR2 := hide_ hm2
                have HX := hide_ (below_to (HX.out) hbC)
                clear hbC hm2
                refine hK.out _ _ (HSS.out _ HX.out) (fun hHeld => ?_)
                clear hK K
                refine wpAnyF_take [36] (by kernel_rfl) (i := 34) (v := ?vm32) rfl (by kernel_rfl) (by kernel_rfl) (by kernel_rfl) (fun _ _ _ h => h) (Or.inl ⟨by kernel_rfl, ?hym32⟩) hHeld ?restm32
                case hym32 => intro w' hSw; (try dsimp only at hSw); go_simp; try with_reducible rfl
                simp only [Act.put]
                refine wpAnyF_ready (rs := [35]) (by kernel_rfl) (by simp) ?_
                refine AllReadyF.cons rfl (fun K hK => ?_) AllReadyF.nil
                go_simp
                obtain ⟨wA, hwA⟩ : ∃ wx, wx = World.alloc wC2 (.cells #[.int .i64 0, .int .i64 0, .int .i64 0, .int .i64 0] 37) := ⟨_, rfl⟩
                have KA : Hid (Blk wA (World.heap wC2).size 37 [.int .i64 0, .int .i64 0, .int .i64 0, .int .i64 0]) := hide_ (by rw [hwA]; exact Blk.newA _ _ _)
                have hbA : Below (World.heap wC2).size wC2 wA := by rw [hwA]; exact below1 _ _
                have HGA : Hid (w5.heap.size ≤ (World.heap wC2).size) := hide_ (Below.size (HX.out))
                have HX := hide_ (below_to (HX.out) hbA)
                clear hbA
                try rw [← hwA]
                clear hwA
                refine hK.out _ _ (HSS.out _ HX.out) (fun hHeld => ?_)
                clear hK K
                refine wpAnyF_ready (rs := [36]) (by kernel_rfl) (by simp) ?_
                refine AllReadyF.last rfl (fun K hK => ?_)
                have z0 := KA.out.cell 0; have z1 := KA.out.cell 1; have z2 := KA.out.cell 2; have z3 := KA.out.cell 3
                have zf := fun i => KA.out.frozen i
                simp at z0 z1 z2 z3
                go_simp
                refine hK.out _ _ ?_
                clear hK K
                refine wpAnyF_done (by kernel_rfl) ?_ _
                go_wp2_with fail
                go_meet
                case rel => exact ⟨_, r0, r1, r2, _, rfl, rfl, HR0, HR1, HR2, hide_ (wr4 KA.out _ _ _ _), HGA, hide_ (below_wr4 HX.out HGA.out _ _ _ _)⟩
              refine AllReadyF.cons rfl (fun K hK => ?_) AllReadyF.nil
              go_simp
              obtain ⟨wA, hwA⟩ : ∃ wx, wx = World.alloc wC1 (.cells #[.int .i64 0, .int .i64 0, .int .i64 0, .int .i64 0] 37) := ⟨_, rfl⟩
              have KA : Hid (Blk wA (World.heap wC1).size 37 [.int .i64 0, .int .i64 0, .int .i64 0, .int .i64 0]) := hide_ (by rw [hwA]; exact Blk.newA _ _ _)
              have hbA : Below (World.heap wC1).size wC1 wA := by rw [hwA]; exact below1 _ _
              have HGA : Hid (w5.heap.size ≤ (World.heap wC1).size) := hide_ (Below.size (HX.out))
              have HX := hide_ (below_to (HX.out) hbA)
              clear hbA
              try rw [← hwA]
              clear hwA
              refine hK.out _ _ (HSS.out _ HX.out) (fun hHeld => ?_)
              clear hK K
              refine wpAnyF_ready (rs := [33]) (by kernel_rfl) (by simp) ?_
              refine AllReadyF.cons rfl (fun K hK => ?_) AllReadyF.nil
              go_simp
              refine (HM2.out _).mono ?_
              rintro e wC2 ⟨r2, hm2, rfl, hbC⟩
              dsimp only
              have HR2 := hide_ hm2
              have KA := hide_ (KA.out.later hbC)
              have HX := hide_ (below_to (HX.out) hbC)
              clear hbC hm2
              refine hK.out _ _ (HSS.out _ HX.out) (fun hHeld => ?_)
              clear hK K
              refine wpAnyF_take [36] (by kernel_rfl) (i := 34) (v := ?vm33) rfl (by kernel_rfl) (by kernel_rfl) (by kernel_rfl) (fun _ _ _ h => h) (Or.inl ⟨by kernel_rfl, ?hym33⟩) hHeld ?restm33
              case hym33 => intro w' hSw; (try dsimp only at hSw); go_simp; try with_reducible rfl
              simp only [Act.put]
              refine wpAnyF_ready (rs := [36]) (by kernel_rfl) (by simp) ?_
              refine AllReadyF.last rfl (fun K hK => ?_)
              have z0 := KA.out.cell 0; have z1 := KA.out.cell 1; have z2 := KA.out.cell 2; have z3 := KA.out.cell 3
              have zf := fun i => KA.out.frozen i
              simp at z0 z1 z2 z3
              go_simp
              refine hK.out _ _ ?_
              clear hK K
              refine wpAnyF_done (by kernel_rfl) ?_ _
              go_wp2_with fail
              go_meet
              case rel => exact ⟨_, r0, r1, r2, _, rfl, rfl, HR0, HR1, HR2, hide_ (wr4 KA.out _ _ _ _), HGA, hide_ (below_wr4 HX.out HGA.out _ _ _ _)⟩
            refine AllReadyF.cons rfl (fun K hK => ?_) AllReadyF.nil
            go_simp
            obtain ⟨wA, hwA⟩ : ∃ wx, wx = World.alloc wC0 (.cells #[.int .i64 0, .int .i64 0, .int .i64 0, .int .i64 0] 37) := ⟨_, rfl⟩
            have KA : Hid (Blk wA (World.heap wC0).size 37 [.int .i64 0, .int .i64 0, .int .i64 0, .int .i64 0]) := hide_ (by rw [hwA]; exact Blk.newA _ _ _)
            have hbA : Below (World.heap wC0).size wC0 wA := by rw [hwA]; exact below1 _ _
            have HGA : Hid (w5.heap.size ≤ (World.heap wC0).size) := hide_ (Below.size (HX.out))
            have HX := hide_ (below_to (HX.out) hbA)
            clear hbA
            try rw [← hwA]
            clear hwA
            refine hK.out _ _ (HSS.out _ HX.out) (fun hHeld => ?_)
            clear hK K
            refine wpAnyF_ready (rs := [22]) (by kernel_rfl) (by simp) ?_
            refine AllReadyF.cons rfl (fun K hK => ?_) AllReadyF.nil
            go_simp
            refine (HM1.out _).mono ?_
            rintro e wC1 ⟨r1, hm1, rfl, hbC⟩
            dsimp only
            have HR1 := hide_ hm1
            have KA := hide_ (KA.out.later hbC)
            have HX := hide_ (below_to (HX.out) hbC)
            clear hbC hm1
            refine hK.out _ _ (HSS.out _ HX.out) (fun hHeld => ?_)
            clear hK K
            refine wpAnyF_ready (rs := [33]) (by kernel_rfl) (by simp) ?_
            refine AllReadyF.cons rfl (fun K hK => ?_) AllReadyF.nil
            go_simp
            refine (HM2.out _).mono ?_
            rintro e wC2 ⟨r2, hm2, rfl, hbC⟩
            dsimp only
            have HR2 := hide_ hm2
            have KA := hide_ (KA.out.later hbC)
            have HX := hide_ (below_to (HX.out) hbC)
            clear hbC hm2
            refine hK.out _ _ (HSS.out _ HX.out) (fun hHeld => ?_)
            clear hK K
            refine wpAnyF_take [36] (by kernel_rfl) (i := 34) (v := ?vm34) rfl (by kernel_rfl) (by kernel_rfl) (by kernel_rfl) (fun _ _ _ h => h) (Or.inl ⟨by kernel_rfl, ?hym34⟩) hHeld ?restm34
            case hym34 => intro w' hSw; (try dsimp only at hSw); go_simp; try with_reducible rfl
            simp only [Act.put]
            refine wpAnyF_ready (rs := [36]) (by kernel_rfl) (by simp) ?_
            refine AllReadyF.last rfl (fun K hK => ?_)
            have z0 := KA.out.cell 0; have z1 := KA.out.cell 1; have z2 := KA.out.cell 2; have z3 := KA.out.cell 3
            have zf := fun i => KA.out.frozen i
            simp at z0 z1 z2 z3
            go_simp
            refine hK.out _ _ ?_
            clear hK K
            refine wpAnyF_done (by kernel_rfl) ?_ _
            go_wp2_with fail
            go_meet
            case rel => exact ⟨_, r0, r1, r2, _, rfl, rfl, HR0, HR1, HR2, hide_ (wr4 KA.out _ _ _ _), HGA, hide_ (below_wr4 HX.out HGA.out _ _ _ _)⟩
          refine AllReadyF.cons rfl (fun K hK => ?_) AllReadyF.nil
          go_simp
          obtain ⟨wA, hwA⟩ : ∃ wx, wx = (World.alloc w5 (.cells #[.int .i64 0, .int .i64 0, .int .i64 0, .int .i64 0] 37)).drew := ⟨_, rfl⟩
          have KA : Hid (Blk wA w5.heap.size 37 [.int .i64 0, .int .i64 0, .int .i64 0, .int .i64 0]) := hide_ (by rw [hwA]; exact (Blk.newA _ _ _).drew)
          have HGA : Hid (w5.heap.size ≤ w5.heap.size) := hide_ (Nat.le_refl _)
          have HX : Hid (Below w5.heap.size w5 wA) := hide_ (by rw [hwA]; exact (below1 _ _).drew)
          try rw [← hwA]
          clear hwA
          refine hK.out _ _ (HSS.out _ HX.out) (fun hHeld => ?_)
          clear hK K
          refine wpAnyF_ready (rs := [11]) (by kernel_rfl) (by simp) ?_
          refine AllReadyF.cons rfl (fun K hK => ?_) AllReadyF.nil
          go_simp
          refine (HM0.out _).mono ?_
          rintro e wC0 ⟨r0, hm0, rfl, hbC⟩
          dsimp only
          have HR0 := hide_ hm0
          have KA := hide_ (KA.out.later hbC)
          have HX := hide_ (below_to (HX.out) hbC)
          clear hbC hm0
          refine hK.out _ _ (HSS.out _ HX.out) (fun hHeld => ?_)
          clear hK K
          refine wpAnyF_ready (rs := [22]) (by kernel_rfl) (by simp) ?_
          refine AllReadyF.cons rfl (fun K hK => ?_) AllReadyF.nil
          go_simp
          refine (HM1.out _).mono ?_
          rintro e wC1 ⟨r1, hm1, rfl, hbC⟩
          dsimp only
          have HR1 := hide_ hm1
          have KA := hide_ (KA.out.later hbC)
          have HX := hide_ (below_to (HX.out) hbC)
          clear hbC hm1
          refine hK.out _ _ (HSS.out _ HX.out) (fun hHeld => ?_)
          clear hK K
          refine wpAnyF_ready (rs := [33]) (by kernel_rfl) (by simp) ?_
          refine AllReadyF.cons rfl (fun K hK => ?_) AllReadyF.nil
          go_simp
          refine (HM2.out _).mono ?_
          rintro e wC2 ⟨r2, hm2, rfl, hbC⟩
          dsimp only
          have HR2 := hide_ hm2
          have KA := hide_ (KA.out.later hbC)
          have HX := hide_ (below_to (HX.out) hbC)
          clear hbC hm2
          refine hK.out _ _ (HSS.out _ HX.out) (fun hHeld => ?_)
          clear hK K
          refine wpAnyF_take [36] (by kernel_rfl) (i := 34) (v := ?vm35) rfl (by kernel_rfl) (by kernel_rfl) (by kernel_rfl) (fun _ _ _ h => h) (Or.inl ⟨by kernel_rfl, ?hym35⟩) hHeld ?restm35
          case hym35 => intro w' hSw; (try dsimp only at hSw); go_simp; try with_reducible rfl
          simp only [Act.put]
          refine wpAnyF_ready (rs := [36]) (by kernel_rfl) (by simp) ?_
          refine AllReadyF.last rfl (fun K hK => ?_)
          have z0 := KA.out.cell 0; have z1 := KA.out.cell 1; have z2 := KA.out.cell 2; have z3 := KA.out.cell 3
          have zf := fun i => KA.out.frozen i
          simp at z0 z1 z2 z3
          go_simp
          refine hK.out _ _ ?_
          clear hK K
          refine wpAnyF_done (by kernel_rfl) ?_ _
          go_wp2_with fail
          go_meet
          case rel => exact ⟨_, r0, r1, r2, _, rfl, rfl, HR0, HR1, HR2, hide_ (wr4 KA.out _ _ _ _), HGA, hide_ (below_wr4 HX.out HGA.out _ _ _ _)⟩
        case rest =>
        obtain ⟨gA, r0, r1, r2, w6, rfl, rfl, HR0, HR1, HR2, KA, HGA, HB6⟩ := hcut
        have HMk6 := hide_ (HMk5.out.later HB6.out)
        have K66 := hide_ (K6.out.later HB6.out)
        have hll : (L.length : Int) = ((n + 1 : Nat) : Int) := by rw [HLl.out]
        rw [hll] at HR0 HR1 HR2
        have HGw : Hid (w.heap.size ≤ gA) := hide_ (Nat.le_trans HMk5.out.b.size HGA.out)
        have HNa : Hid (gA ≠ gc) := hide_ (by have := HMk5.out.c.lt; have := HGA.out; omega)
        clear ix0 ix1 ix2 HSS HM0 HM1 HM2 HX0 HR5 hll HMk5 HB6
        obtain ⟨y, hy⟩ : ∃ y, L[i]? = some y := ⟨_, List.getElem?_eq_getElem hiL⟩
        have HYi := hide_ hy
        clear hy
        have hon : ofN op enc = ⟨(nmT op).toArray⟩ := by unfold ofN; rw [if_pos HOp.out]
        have hnn := (nm_ne HOp.out).2.2.1
        rw [HN.out] at hon hnn
        by_cases h17 : op = 17
        · subst h17
          have hsn : sN = ⟨#[112, 97, 114, 116]⟩ := by rw [hon]; rfl
          subst hsn
          have n0 := K66.out.cell 0; have n1 := KA.out.cell 1; have n2 := KA.out.cell 2; have n3 := KA.out.cell 3; have n4 := KA.out.cell 0
          have nf := fun i => KA.out.frozen i
          simp at n0 n1 n2 n3 n4
          clear hon HN K66 hnn
          by_cases ha : r0 = -1
          · have ha' : (r0 == -1) = true := by simpa using ha
            clear ha
            obtain ⟨w7, hw7⟩ : ∃ wx, wx = (w6.setCell ⟨gA, 1, none⟩ (.int .i64 (-1))).setCell ⟨gA, 2, none⟩ (.int .i64 (-1)) := ⟨_, rfl⟩
            have hU7 : Upd (fun k => k = gA) w6 w7 := by rw [hw7]; exact ((Upd.refl (fun k => k = gA) w6).set ⟨gA, 1, none⟩ (.int .i64 (-1)) (.inl rfl)).set ⟨gA, 2, none⟩ (.int .i64 (-1)) (.inl rfl)
            have KA7 : Hid (Blk w7 gA 37 [.int .i64 17, .int .i64 (-1), .int .i64 (-1), .int .i64 r2]) := hide_ (by rw [hw7]; have := (KA.out.set 1 (.int .i64 (-1))).set 2 (.int .i64 (-1)); simpa using this)
            have HMk7 := hide_ (HMk6.out.apart KA.out HNa.out HGw.out hU7)
            clear hU7
            go_upto_region 20 with fail
            rw [← hw7]
            clear hw7 n0 n1 n2 n3 n4 nf
            have z0 := KA7.out.cell 0; have z1 := KA7.out.cell 1; have z2 := KA7.out.cell 2; have z3 := KA7.out.cell 3
            have o1 := HMk7.out.o.cell 1
            simp at z0 z1 z2 z3 o1
            obtain ⟨y0, y1, y2, y3⟩ := HMk7.out.at HYi.out
            have yf := fun j => HMk7.out.c.frozen j
            have HM8 := hide_ (HMk7.out.put4 hiL ⟨17, -1, -1, r2⟩)
            have HP8 := hide_ (pre_put hiL HPr.out (pre_part HOp.out (mdo_m1 _ _).1 (mdo_m1 _ _).2 HR2.out (.inl ⟨rfl, rfl⟩)))
            have HL8 : Hid ((L.set i ⟨17, -1, -1, r2⟩).length = n + 1) := hide_ (by rw [List.length_set]; exact HLl.out)
            go_wp2_with fail
            go_roundw
            case rel => exact ⟨i + 1, L.set i ⟨17, -1, -1, r2⟩, by omega, by go_num, HM8, HL8, HP8⟩
            case measure => simp [intOf]; omega
          · have ha' : (r0 == -1) = false := by simpa using ha
            by_cases hb : r1 = -1
            · have hb' : (r1 == -1) = true := by simpa using hb
              clear ha hb
              obtain ⟨w7, hw7⟩ : ∃ wx, wx = (w6.setCell ⟨gA, 1, none⟩ (.int .i64 (-1))).setCell ⟨gA, 2, none⟩ (.int .i64 (-1)) := ⟨_, rfl⟩
              have hU7 : Upd (fun k => k = gA) w6 w7 := by rw [hw7]; exact ((Upd.refl (fun k => k = gA) w6).set ⟨gA, 1, none⟩ (.int .i64 (-1)) (.inl rfl)).set ⟨gA, 2, none⟩ (.int .i64 (-1)) (.inl rfl)
              have KA7 : Hid (Blk w7 gA 37 [.int .i64 17, .int .i64 (-1), .int .i64 (-1), .int .i64 r2]) := hide_ (by rw [hw7]; have := (KA.out.set 1 (.int .i64 (-1))).set 2 (.int .i64 (-1)); simpa using this)
              have HMk7 := hide_ (HMk6.out.apart KA.out HNa.out HGw.out hU7)
              clear hU7
              go_upto_region 20 with fail
              rw [← hw7]
              clear hw7 n0 n1 n2 n3 n4 nf
              have z0 := KA7.out.cell 0; have z1 := KA7.out.cell 1; have z2 := KA7.out.cell 2; have z3 := KA7.out.cell 3
              have o1 := HMk7.out.o.cell 1
              simp at z0 z1 z2 z3 o1
              obtain ⟨y0, y1, y2, y3⟩ := HMk7.out.at HYi.out
              have yf := fun j => HMk7.out.c.frozen j
              have HM8 := hide_ (HMk7.out.put4 hiL ⟨17, -1, -1, r2⟩)
              have HP8 := hide_ (pre_put hiL HPr.out (pre_part HOp.out (mdo_m1 _ _).1 (mdo_m1 _ _).2 HR2.out (.inl ⟨rfl, rfl⟩)))
              have HL8 : Hid ((L.set i ⟨17, -1, -1, r2⟩).length = n + 1) := hide_ (by rw [List.length_set]; exact HLl.out)
              go_wp2_with fail
              go_roundw
              case rel => exact ⟨i + 1, L.set i ⟨17, -1, -1, r2⟩, by omega, by go_num, HM8, HL8, HP8⟩
              case measure => simp [intOf]; omega
            · have hb' : (r1 == -1) = false := by simpa using hb
              have HPp := hide_ (pre_part HOp.out HR0.out HR1.out HR2.out (.inr ⟨ha, hb⟩))
              clear ha hb
              go_upto_region 20 with fail
              clear n0 n1 n2 n3 n4 nf
              have z0 := KA.out.cell 0; have z1 := KA.out.cell 1; have z2 := KA.out.cell 2; have z3 := KA.out.cell 3
              have o1 := HMk6.out.o.cell 1
              simp at z0 z1 z2 z3 o1
              obtain ⟨y0, y1, y2, y3⟩ := HMk6.out.at HYi.out
              have yf := fun j => HMk6.out.c.frozen j
              have HM8 := hide_ (HMk6.out.put4 hiL ⟨17, r0, r1, r2⟩)
              have HP8 := hide_ (pre_put hiL HPr.out (HPp.out))
              have HL8 : Hid ((L.set i ⟨17, r0, r1, r2⟩).length = n + 1) := hide_ (by rw [List.length_set]; exact HLl.out)
              go_wp2_with fail
              go_roundw
              case rel => exact ⟨i + 1, L.set i ⟨17, r0, r1, r2⟩, by omega, by go_num, HM8, HL8, HP8⟩
              case measure => simp [intOf]; omega
        · have hdn := strL_ne _ [112, 97, 114, 116] (hnn h17)
          have HPp := hide_ (pre_of HOp.out HR0.out HR1.out HR2.out h17)
          have n0 := K66.out.cell 0
          simp at n0
          clear hon HN K66 hnn h17
          go_upto_region 20 with fail
          clear n0
          have z0 := KA.out.cell 0; have z1 := KA.out.cell 1; have z2 := KA.out.cell 2; have z3 := KA.out.cell 3
          have o1 := HMk6.out.o.cell 1
          simp at z0 z1 z2 z3 o1
          obtain ⟨y0, y1, y2, y3⟩ := HMk6.out.at HYi.out
          have yf := fun j => HMk6.out.c.frozen j
          have HM8 := hide_ (HMk6.out.put4 hiL ⟨op, r0, r1, r2⟩)
          have HP8 := hide_ (pre_put hiL HPr.out (HPp.out))
          have HL8 : Hid ((L.set i ⟨op, r0, r1, r2⟩).length = n + 1) := hide_ (by rw [List.length_set]; exact HLl.out)
          go_wp2_with fail
          go_roundw
          case rel => exact ⟨i + 1, L.set i ⟨op, r0, r1, r2⟩, by omega, by go_num, HM8, HL8, HP8⟩
          case measure => simp [intOf]; omega
      · obtain rfl : i = n := by omega
        have hiL : i < L.length := by have := HLl.out; omega
        have hiL' : (i : Int) < L.length := by omega
        have HYn : Hid (L[i]? = some (L[i]'hiL)) := hide_ (List.getElem?_eq_getElem hiL)
        obtain ⟨y, hy⟩ : ∃ y, L[i]? = some y := ⟨_, List.getElem?_eq_getElem hiL⟩
        obtain ⟨y0, y1, y2, y3⟩ := HMq.out.at hy
        have yf := fun j => HMq.out.c.frozen j
        have o1 := HMq.out.o.cell 1
        simp at o1
        obtain ⟨w4, hw4⟩ : ∃ wx, wx = (((wq.setCell ⟨gc, i * 4, none⟩ (.int .i64 20)).setCell ⟨gc, i * 4 + 1, none⟩ (.int .i64 0)).setCell ⟨gc, i * 4 + 2, none⟩ (.int .i64 0)).setCell ⟨gc, i * 4 + 3, none⟩ (.int .i64 0) := ⟨_, rfl⟩
        have HM4 : Hid (MkM w w4 enc (.slice ac C0.length cc) (.slice ae E0.length ce) gc ge (L.set i ⟨20, 0, 0, 0⟩) (List.replicate m 0)) := hide_ (by rw [hw4]; exact HMq.out.put4 hiL ⟨20, 0, 0, 0⟩)
        have HP4 : Hid (Lp2 enc i m 0 (L.set i ⟨20, 0, 0, 0⟩)) := hide_ ⟨by rw [List.length_set]; exact HLl.out, fun j hj => by omega, fun j x h0 hj hx => by
          rw [List.getElem?_set_ne (by omega)] at hx
          exact HPr.out j x hj hx, by rw [List.getElem?_set_self hiL]⟩
        generalize L.set i ⟨20, 0, 0, 0⟩ = L4 at *
        clear HYn hy HMq HLl HPr hiL
        go_upto_region 22 with fail
        rw [← hw4]
        clear hw4 y0 y1 y2 y3 yf o1 HMk hiL'
        generalize i = n at *
        go_wp2_with fail
        go_loopw [12] (fun x12 wr => ∃ (i : Nat) (L : List In), i ≤ n ∧ x12 = .int .i64 (i : Int) ∧ Hid (MkM w wr enc (.slice ac C0.length cc) (.slice ae E0.length ce) gc ge L (List.replicate m 0)) ∧ Hid (Lp2 enc n m i L)) (fun x12 _ => n - (intOf x12).toNat)
        case atStart => exact ⟨0, L4, Nat.zero_le _, rfl, HM4, HP4⟩
        case round =>
          obtain ⟨i, L, hi, rfl, HMq, HLp⟩ := hrel
          generalize wr = wq at *
          clear HM4 HP4
          by_cases hlt : i < n
          · have hlt' : (i : Int) < n := by omega
            have hiL : i < L.length := by have := HLp.out.len; omega
            have hiL' : (i : Int) < L.length := by omega
            obtain ⟨y, hy⟩ : ∃ y, L[i]? = some y := ⟨_, List.getElem?_eq_getElem hiL⟩
            have HYi := hide_ hy
            obtain ⟨y0, y1, y2, y3⟩ := HMq.out.at hy
            have yf := fun j => HMq.out.c.frozen j
            have o1 := HMq.out.o.cell 1
            simp at o1
            clear hy
            by_cases hu : y.op = 8 ∨ y.op = 41
            case neg =>
              have h8 : (y.op != 8) = true := by simp; omega
              have h41 : (y.op != 41) = true := by simp; omega
              have HL2 := hide_ (HLp.out.step hlt HYi.out (by omega) (by omega))
              clear hu
              go_wp2_with fail
              go_roundw
              case rel => exact ⟨i + 1, L, by omega, by go_num, HMq, HL2⟩
              case measure => simp [intOf]; omega
            obtain ⟨ya, yb, yc⟩ := (HLp.out.pr i y (Nat.le_refl _) hlt HYi.out).un hu
            have HUn := hide_ hu
            have HOf := hide_ (HLp.out.pr i y (Nat.le_refl _) hlt HYi.out).of
            obtain ⟨yo, ya', yb', yc'⟩ := y
            simp only at ya yb yc
            subst ya yb yc
            simp only at y0 y1 y2 y3 hu HUn HOf
            have hcond : (yo != 8) = false ∨ ((yo != 8) = true ∧ (yo != 41) = false) := by
              rcases hu with h | h
              · exact .inl (by simp [h])
              · exact .inr ⟨by simp; omega, by simp [h]⟩
            clear hu
            go_upto_region 25 with fail
            go_cut [186] from 171 to 186 (fun c wc => c = .bool false ∧ wq = wc)
            case first =>
              rcases hcond with h | ⟨h, h'⟩
              · go_wp2_with fail
                go_meet
                case rel => exact ⟨rfl, rfl⟩
              · go_wp2_with fail
                go_meet
                case rel => exact ⟨rfl, rfl⟩
            case rest =>
            obtain ⟨rfl, rfl⟩ := hcut
            clear hcond
            clear y0 y1 y2 y3 yf o1
            have HM0 : Hid (MkM w wq enc (.slice ac C0.length cc) (.slice ae E0.length ce) gc ge (L.set i ⟨yo, 0, 0, 0⟩) (List.replicate m 0)) := hide_ (by
              have e : L.set i ⟨yo, 0, 0, 0⟩ = L := by
                apply List.ext_getElem?
                intro j
                by_cases ej : i = j
                · subst ej; rw [List.getElem?_set_self hiL, HYi.out]
                · rw [List.getElem?_set_ne ej]
              rw [e]; exact HMq.out)
            go_upto_block 4 with fail
            go_cut [13] from 187 to 221 (fun x13 wc => ∃ (k : Nat) (a : Int) (wf : World), wf = wc ∧ x13 = .int .i64 (k : Int) ∧ k ≤ 64 ∧ Hid (i + k < n ∨ k = 0) ∧ Hid (MkM w wf enc (.slice ac C0.length cc) (.slice ae E0.length ce) gc ge (L.set i ⟨yo, a, 0, 0⟩) (List.replicate m 0)) ∧ Hid (k = 0 ∨ arms (L.drop (i + 1)) k = true))
            case first =>
              go_wp2_with fail
              go_loopw [13] (fun x13 wr => ∃ (k : Nat) (a : Int), x13 = .int .i64 (k : Int) ∧ k ≤ 64 ∧ i + k ≤ n ∧ Hid (i + k < n ∨ k = 0) ∧ Hid (MkM w wr enc (.slice ac C0.length cc) (.slice ae E0.length ce) gc ge (L.set i ⟨yo, a, 0, 0⟩) (List.replicate m 0)) ∧ Hid (k = 0 ∨ arms (L.drop (i + 1)) k = true)) (fun x13 _ => 64 - (intOf x13).toNat)
              case atStart => exact ⟨0, 0, rfl, by omega, by omega, hide_ (.inr rfl), HM0, hide_ (.inl rfl)⟩
              case round =>
                obtain ⟨k, a, rfl, hk64, hkn, HKn, HMk, HKa⟩ := hrel
                generalize wr = wk at *
                have o1 := HMk.out.o.cell 1
                rw [List.length_set] at o1
                simp at o1
                obtain ⟨q, hq⟩ : ∃ q : Nat, q = i + 1 + k := ⟨_, rfl⟩
                have hqi : (i : Int) + 1 + (k : Int) = (q : Int) := by omega
                by_cases c1 : q < n
                case neg =>
                  have c1' : ¬ (q : Int) < n := by omega
                  have HQ := hide_ hq
                  clear hq
                  go_wp2_with fail
                  go_meet
                  case rel => exact ⟨k, a, _, rfl, rfl, hk64, HKn, HMk, HKa⟩
                have c1' : (q : Int) < n := by omega
                by_cases c2 : k < 64
                case neg =>
                  have c2' : ¬ (k : Int) < 64 := by omega
                  have HQ := hide_ hq
                  clear hq
                  go_wp2_with fail
                  go_meet
                  case rel => exact ⟨k, a, _, rfl, rfl, hk64, HKn, HMk, HKa⟩
                have c2' : (k : Int) < 64 := by omega
                have hqL : q < L.length := by have := HLp.out.len; omega
                have hqL' : (q : Int) < L.length := by omega
                obtain ⟨z, hz⟩ : ∃ z, L[q]? = some z := ⟨_, List.getElem?_eq_getElem hqL⟩
                have hz2 : (L.set i ⟨yo, a, 0, 0⟩)[q]? = some z := by rw [List.getElem?_set_ne (by omega)]; exact hz
                have z0 := (HMk.out.at hz2).1
                have HZ := hide_ hz
                clear hz hz2
                by_cases c3 : z.op = 9
                case neg =>
                  have c3' : (z.op == 9) = false := by simpa using c3
                  clear c3
                  have HQ := hide_ hq
                  clear hq
                  go_wp2_with fail
                  go_meet
                  case rel => exact ⟨k, a, _, rfl, rfl, hk64, HKn, HMk, HKa⟩
                have c3' : (z.op == 9) = true := by simpa using c3
                clear c3
                have hia : (L.set i ⟨yo, a, 0, 0⟩)[i]? = some ⟨yo, a, 0, 0⟩ := List.getElem?_set_self hiL
                obtain ⟨y0, y1, y2, y3⟩ := HMk.out.at hia
                have yf := fun j => HMk.out.c.frozen j
                obtain ⟨w8, hw8⟩ : ∃ wx, wx = wk.setCell ⟨gc, i * 4 + 1, none⟩ (.int .i64 ((k : Int) + 1)) := ⟨_, rfl⟩
                have HM8 : Hid (MkM w w8 enc (.slice ac C0.length cc) (.slice ae E0.length ce) gc ge (L.set i ⟨yo, (k : Int) + 1, 0, 0⟩) (List.replicate m 0)) := hide_ (by
                  rw [hw8]
                  have := HMk.out.putA hia ((k : Int) + 1)
                  rw [List.set_set] at this
                  exact this)
                obtain ⟨r, hrr⟩ : ∃ r, arms (L.drop (i + 1)) ((k : Int) + 1) = r := ⟨_, rfl⟩
                have HAr : Hid (∀ nn, nn = L.length → Calls Try.prog 24 #[.agg #[.bool enc, .slice (some ⟨gc, 0, none⟩) nn nn, .slice (some ⟨ge, 0, none⟩) (List.replicate m (0 : Int)).length (List.replicate m (0 : Int)).length], .int .i64 (i : Int)] w8 fun e w' => e = .returned (.bool r) ∧ Below w8.heap.size w8 w') := hide_ (fun nn hnn => by
                  subst hnn
                  have h := rarms_any enc (some ⟨gc, 0, none⟩) (some ⟨ge, 0, none⟩) L.length (List.replicate m (0 : Int)).length (List.replicate m (0 : Int)).length i (L.set i ⟨yo, (k : Int) + 1, 0, 0⟩) ⟨yo, (k : Int) + 1, 0, 0⟩ w8 (List.getElem?_set_self hiL) (by simp only; omega) (by rw [List.length_set]; have := HLp.out.len; omega) (hide_ HM8.out.row)
                  rw [List.length_set, List.drop_set_of_lt (by omega)] at h
                  rw [← hrr]
                  exact h)
                have HRr := hide_ hrr
                clear hrr hia
                have HQ := hide_ hq
                clear hq
                simp only at y0 y1 y2 y3
                go_upto_region 29 with fail
                rw [← hw8]
                clear hw8 y0 y1 y2 y3 yf z0 o1 hqi
                have o0 := HM8.out.o.cell 0; have o1 := HM8.out.o.cell 1; have o2 := HM8.out.o.cell 2
                rw [List.length_set] at o1
                simp at o0 o1 o2
                have HM8' : Hid (∀ w', Below w8.heap.size w8 w' → MkM w w' enc (.slice ac C0.length cc) (.slice ae E0.length ce) gc ge (L.set i ⟨yo, (k : Int) + 1, 0, 0⟩) (List.replicate m 0)) := hide_ (fun w' hb => HM8.out.later hb)
                have hrl : (List.replicate m (0 : Int)).length = m := by simp
                rw [hrl] at HAr
                clear hrl
                cases r with
                | false =>
                  go_wp2_with (go_at_call 24; refine (HAr.out _ rfl).mono ?_; rintro e w9 ⟨rfl, hB9⟩; (have HM9 := hide_ (HM8'.out _ hB9)); clear hB9)
                  go_meet
                  case rel => exact ⟨k, (k : Int) + 1, _, rfl, rfl, hk64, HKn, HM9, HKa⟩
                | true =>
                  go_wp2_with (go_at_call 24; refine (HAr.out _ rfl).mono ?_; rintro e w9 ⟨rfl, hB9⟩; (have HM9 := hide_ (HM8'.out _ hB9)); clear hB9)
                  go_roundw
                  case rel => exact ⟨k + 1, (k : Int) + 1, by go_num, by omega, by have := HQ.out; omega, hide_ (.inl (by have := HQ.out; omega)), HM9, hide_ (.inr (by rw [← HRr.out]; congr 1))⟩
                  case measure => simp [intOf]; omega
            case rest =>
            obtain ⟨k, a, w7, rfl, rfl, hk64, HKn, HM7, HKa⟩ := hcut
            clear HM0 HMq
            have o1 := HM7.out.o.cell 1
            rw [List.length_set] at o1
            simp at o1
            have hia : (L.set i ⟨yo, a, 0, 0⟩)[i]? = some ⟨yo, a, 0, 0⟩ := List.getElem?_set_self hiL
            obtain ⟨y0, y1, y2, y3⟩ := HM7.out.at hia
            have yf := fun j => HM7.out.c.frozen j
            obtain ⟨w8, hw8⟩ : ∃ wx, wx = w7.setCell ⟨gc, i * 4 + 1, none⟩ (.int .i64 (k : Int)) := ⟨_, rfl⟩
            have HM8 : Hid (MkM w w8 enc (.slice ac C0.length cc) (.slice ae E0.length ce) gc ge (L.set i ⟨yo, (k : Int), 0, 0⟩) (List.replicate m 0)) := hide_ (by
              rw [hw8]
              have := HM7.out.putA hia (k : Int)
              rw [List.set_set] at this
              exact this)
            clear hia
            go_upto_region 32 with fail
            rw [← hw8]
            clear hw8 y0 y1 y2 y3 yf o1
            by_cases hk0 : k = 0
            · have hk0' : ((k : Int) == 0) = true := by simp [hk0]
              have HL9 := hide_ (HLp.out.put hlt HYi.out HUn.out (y := ⟨20, 0, 0, 0⟩) (frm_ret (List.getElem?_set_self hiL)))
              have hia : (L.set i ⟨yo, (k : Int), 0, 0⟩)[i]? = some ⟨yo, (k : Int), 0, 0⟩ := List.getElem?_set_self hiL
              obtain ⟨y0, y1, y2, y3⟩ := HM8.out.at hia
              have yf := fun j => HM8.out.c.frozen j
              have o1 := HM8.out.o.cell 1
              rw [List.length_set] at o1
              simp at o1
              have HM9 : Hid (MkM w ((((w8.setCell ⟨gc, i * 4, none⟩ (.int .i64 20)).setCell ⟨gc, i * 4 + 1, none⟩ (.int .i64 0)).setCell ⟨gc, i * 4 + 2, none⟩ (.int .i64 0)).setCell ⟨gc, i * 4 + 3, none⟩ (.int .i64 0)) enc (.slice ac C0.length cc) (.slice ae E0.length ce) gc ge (L.set i ⟨20, 0, 0, 0⟩) (List.replicate m 0)) := hide_ (by
                have := HM8.out.put4 (i := i) (by rw [List.length_set]; exact hiL) ⟨20, 0, 0, 0⟩
                rw [List.set_set] at this
                exact this)
              clear hk0 hia
              go_wp2_with fail
              go_roundw
              case rel => exact ⟨i + 1, L.set i ⟨20, 0, 0, 0⟩, by omega, by go_num, HM9, HL9⟩
              case measure => simp [intOf]; omega
            · have hk0' : ((k : Int) == 0) = false := by simpa using hk0
              have HL9 := hide_ (HLp.out.put hlt HYi.out HUn.out (y := ⟨yo, (k : Int), 0, 0⟩) (frm_un (List.getElem?_set_self hiL) HUn.out HOf.out (by omega) hk64 (by
                rw [List.drop_set_of_lt (by omega)]
                exact HKa.out.resolve_left hk0)))
              clear hk0
              go_wp2_with fail
              go_roundw
              case rel => exact ⟨i + 1, L.set i ⟨yo, (k : Int), 0, 0⟩, by omega, by go_num, HM8, HL9⟩
              case measure => simp [intOf]; omega
          · obtain rfl : i = n := by omega
            go_wp2_with fail
            go_loopw [14] (fun x14 wr => ∃ (j : Nat) (E : List Int), j ≤ m ∧ x14 = .int .i64 (j : Int) ∧ Hid (MkM w wr enc (.slice ac C0.length cc) (.slice ae E0.length ce) gc ge L E) ∧ Hid (E.length = m) ∧ Hid (∀ k, k < m → 0 ≤ E.getD k 0 ∧ E.getD k 0 ≤ (i : Int))) (fun x14 _ => m - (intOf x14).toNat)
            case atStart => exact ⟨0, List.replicate m 0, Nat.zero_le _, rfl, HMq, hide_ (by simp), hide_ (fun k hk => by
              rw [List.getD, List.getElem?_replicate, if_pos hk]
              simp)⟩
            case round =>
              obtain ⟨j, E, hj, rfl, HMz, HEl, HEb⟩ := hrel
              generalize wr = wz at *
              clear HMq
              have o2 := HMz.out.o.cell 2; have p2 := HMz.out.p.cell 2
              simp at o2 p2
              by_cases hlt : j < m
              · have hlt' : (j : Int) < m := by omega
                have hiE : j < E.length := by have := HEl.out; omega
                have hiE' : (j : Int) < E.length := by omega
                by_cases hie : j < E0.length
                case neg =>
                  have hie' : ¬ (j : Int) < E0.length := by omega
                  go_wp2_with fail
                  go_roundw
                  case rel => exact ⟨j + 1, E, by omega, by go_num, HMz, HEl, HEb⟩
                  case measure => simp [intOf]; omega
                have hie' : (j : Int) < E0.length := by omega
                obtain ⟨bE, oE, rfl, -, hcs⟩ := (he.out.later HMz.out.b).open (by omega)
                have y0' := hcs j hie
                obtain ⟨y0, hy0⟩ : ∃ y, E0.getD j 0 = y := ⟨_, rfl⟩
                obtain ⟨z0, hz0⟩ : ∃ y, E.getD j 0 = y := ⟨_, rfl⟩
                rw [hy0] at y0'
                have z0' : wz.cell? ⟨ge, j, none⟩ = some (.int .i64 z0) := by
                  rw [HMz.out.e.cell, ← hz0]
                  unfold cellsL
                  rw [List.getElem?_map, List.getElem?_eq_getElem hiE, List.getD, List.getElem?_eq_getElem hiE]
                  rfl
                have HCe : Hid (wz.cell? ⟨bE, oE + j, none⟩ = some (.int .i64 y0) ∧ wz.cell? ⟨ge, j, none⟩ = some (.int .i64 z0)) := hide_ ⟨y0', z0'⟩
                have HSS : Hid (∀ w' : World, w'.heap = wz.heap → (fun (w' : World) => w'.cell? ⟨w.heap.size + 2, 2, none⟩ = some (.slice (some ⟨ge, 0, none⟩) E.length E.length) ∧ w'.cell? ⟨w.heap.size, 2, none⟩ = some (.slice (some ⟨bE, oE, none⟩) E0.length ce) ∧ w'.cell? ⟨bE, oE + j, none⟩ = some (.int .i64 y0) ∧ w'.cell? ⟨ge, j, none⟩ = some (.int .i64 z0) ∧ w'.frozen? ⟨ge, j, none⟩ = false) w') := hide_ (fun w' hB => by
                  have e : ∀ a, w'.cell? a = wz.cell? a := fun a => by unfold World.cell?; rw [hB]
                  have e2 : ∀ a, w'.frozen? a = wz.frozen? a := fun a => by unfold World.frozen?; rw [hB]
                  exact ⟨(e _).trans (HMz.out.o.cell 2), (e _).trans (HMz.out.p.cell 2), (e _).trans HCe.out.1, (e _).trans HCe.out.2, (e2 _).trans (HMz.out.e.frozen j)⟩)
                have HBt := hide_ (fun w' => brought_any y0 0 (i : Int) w' (by omega) (by omega) (by omega))
                clear hcs y0' z0' hy0 hz0
                go_upto_region 38 with fail
                refine wp_region_last 11 (fun (w' : World) => w'.cell? ⟨w.heap.size + 2, 2, none⟩ = some (.slice (some ⟨ge, 0, none⟩) E.length E.length) ∧ w'.cell? ⟨w.heap.size, 2, none⟩ = some (.slice (some ⟨bE, oE, none⟩) E0.length ce) ∧ w'.cell? ⟨bE, oE + j, none⟩ = some (.int .i64 y0) ∧ w'.cell? ⟨ge, j, none⟩ = some (.int .i64 z0) ∧ w'.frozen? ⟨ge, j, none⟩ = false) (by kernel_rfl) (HSS.out _ rfl) (fun hHeld => ?_)
                refine wpAnyF_take [11] (by kernel_rfl) (i := 0) (v := ?vn1) rfl (by kernel_rfl) (by kernel_rfl) (by kernel_rfl) (fun _ _ _ h => h) (Or.inl ⟨by kernel_rfl, ?hyn1⟩) hHeld ?restn1
                case hyn1 => intro w' hSw; (try dsimp only at hSw); go_simp; try with_reducible rfl
                simp only [Act.put]
                refine wpAnyF_take [11] (by kernel_rfl) (i := 1) (v := ?vn2) rfl (by kernel_rfl) (by kernel_rfl) (by kernel_rfl) (fun _ _ _ h => h) (Or.inl ⟨by kernel_rfl, ?hyn2⟩) hHeld ?restn2
                case hyn2 => intro w' hSw; (try dsimp only at hSw); go_simp; try with_reducible rfl
                simp only [Act.put]
                refine wpAnyF_take [11] (by kernel_rfl) (i := 2) (v := ?vn3) rfl (by kernel_rfl) (by kernel_rfl) (by kernel_rfl) (fun _ _ _ h => h) (Or.inl ⟨by kernel_rfl, ?hyn3⟩) hHeld ?restn3
                case hyn3 => intro w' hSw; (try dsimp only at hSw); go_simp; try with_reducible rfl
                simp only [Act.put]
                refine wpAnyF_take [11] (by kernel_rfl) (i := 3) (v := ?vn4) rfl (by kernel_rfl) (by kernel_rfl) (by kernel_rfl) (fun _ _ _ h => h) (Or.inl ⟨by kernel_rfl, ?hyn4⟩) hHeld ?restn4
                case hyn4 => intro w' hSw; (try dsimp only at hSw); go_simp; try with_reducible rfl
                simp only [Act.put]
                refine wpAnyF_take [11] (by kernel_rfl) (i := 4) (v := ?vn5) rfl (by kernel_rfl) (by kernel_rfl) (by kernel_rfl) (fun _ _ _ h => h) (Or.inl ⟨by kernel_rfl, ?hyn5⟩) hHeld ?restn5
                case hyn5 => intro w' hSw; (try dsimp only at hSw); go_simp; try with_reducible rfl
                simp only [Act.put]
                refine wpAnyF_take [11] (by kernel_rfl) (i := 5) (v := ?vn6) rfl (by kernel_rfl) (by kernel_rfl) (by kernel_rfl) (fun _ _ _ h => h) (Or.inl ⟨by kernel_rfl, ?hyn6⟩) hHeld ?restn6
                case hyn6 => intro w' hSw; (try dsimp only at hSw); go_simp; try with_reducible rfl
                simp only [Act.put]
                refine wpAnyF_take [11] (by kernel_rfl) (i := 6) (v := ?vn7) rfl (by kernel_rfl) (by kernel_rfl) (by kernel_rfl) (fun _ _ _ h => h) (Or.inl ⟨by kernel_rfl, ?hyn7⟩) hHeld ?restn7
                case hyn7 => intro w' hSw; (try dsimp only at hSw); go_simp; try with_reducible rfl
                simp only [Act.put]
                refine wpAnyF_take [11] (by kernel_rfl) (i := 7) (v := ?vn8) rfl (by kernel_rfl) (by kernel_rfl) (by kernel_rfl) (fun _ _ _ h => h) (Or.inl ⟨by kernel_rfl, ?hyn8⟩) hHeld ?restn8
                case hyn8 => intro w' hSw; (try dsimp only at hSw); go_simp; try with_reducible rfl
                simp only [Act.put]
                refine wpAnyF_take [11] (by kernel_rfl) (i := 8) (v := ?vn9) rfl (by kernel_rfl) (by kernel_rfl) (by kernel_rfl) (fun _ _ _ h => h) (Or.inl ⟨by kernel_rfl, ?hyn9⟩) hHeld ?restn9
                case hyn9 => intro w' hSw; (try dsimp only at hSw); go_simp; try with_reducible rfl
                simp only [Act.put]
                refine wpAnyF_ready (rs := [9]) (by kernel_rfl) (by simp) ?_
                refine AllReadyF.cons rfl (fun K hK => ?_) AllReadyF.nil
                go_simp
                refine (HBt.out _).mono ?_
                rintro e wB ⟨r, ra, rb, rfl, rfl⟩
                dsimp only
                refine hK.out _ _ (HSS.out _ rfl) (fun hHeld => ?_)
                clear hK K
                refine wpAnyF_take [11] (by kernel_rfl) (i := 10) (v := ?vn10) rfl (by kernel_rfl) (by kernel_rfl) (by kernel_rfl) (fun _ _ _ h => h) (Or.inl ⟨by kernel_rfl, ?hyn10⟩) hHeld ?restn10
                case hyn10 => intro w' hSw; (try dsimp only at hSw); go_simp; try with_reducible rfl
                simp only [Act.put]
                refine wpAnyF_ready (rs := [11]) (by kernel_rfl) (by simp) ?_
                refine AllReadyF.last rfl (fun K hK => ?_)
                go_simp
                refine hK.out _ _ ?_
                clear hK K
                refine wpAnyF_done (by kernel_rfl) ?_ _
                have HM2 := hide_ ((HMz.out.later ((Below.refl wz.heap.size wz).drew)).putE (i := j) r)
                have HE2 := hide_ (ent_put (i := j) HEl.out HEb.out ra rb)
                have HEl2 : Hid ((E.set j r).length = m) := hide_ (by rw [List.length_set]; exact HEl.out)
                clear HSS
                go_wp2_with fail
                go_roundw
                case rel => exact ⟨j + 1, E.set j r, by omega, by go_num, HM2, HEl2, HE2⟩
                case measure => simp [intOf]; omega
              · obtain rfl : j = m := by omega
                have HK := hide_ (HLp.out.chk (by omega) HEl.out (by omega) HEb.out)
                have HL0 : Hid (0 < L.length ∧ L.length ≤ most + 1) := hide_ (by have := HLp.out.len; omega)
                have HE0 : Hid (0 < E.length) := hide_ (by have := HEl.out; omega)
                have hEl : (j : Int) = E.length := by have := HEl.out; omega
                have hie' : ¬ (j : Int) < E.length := by omega
                have o0 := HMz.out.o.cell 0; have o1 := HMz.out.o.cell 1
                have r0 := HMz.out.r.cell 0; have r1 := HMz.out.r.cell 1; have r2 := HMz.out.r.cell 2
                have rf := fun q => HMz.out.r.frozen q
                simp at o0 o1 r0 r1 r2
                clear hEl
                go_wp2
                exact made_ret rfl rfl HMz.out HK.out HL0.out.1 HL0.out.2 (by omega) HE0.out
end Go.Proofs.Ytiojpohmgjdgfaa
