/- CodeLimits: its walk. -/
import Derived.Test.YtkolbdgippplbaaDoorCdy
namespace Go.Proofs.YtkolbdgippplbaaDoor
open Go.RowKit
set_option linter.unusedVariables false

theorem flat_bys {α : Type} {f : α → List Int} {l : List α} (h : ∀ x, Bys (f x)) : Bys (l.flatMap f) := fun x hx => by
  obtain ⟨a, _, ha⟩ := List.mem_flatMap.1 hx
  exact h a x ha
theorem encP_bys (enc : Bool) (C : List In) (E : List Int) : Bys (encP enc C E) := by
  unfold encP
  refine (((((?_ : Bys [109, if enc then 1 else 0]).append (form_bys _)).append (flat_bys (fun x => form_bys _))).append (form_bys _)).append (flat_bys (fun x => ?_)))
  · intro x hx
    cases enc <;> simp at hx <;> omega
  · unfold insB
    exact (form_bys _).append (flat_bys (fun n => form_bys _))
theorem rep_row {w : World} {gc N n : Nat} (hn : n ≤ N) (h : Blk w gc 28 (cellsG inc (List.replicate N ret0))) : IRow w (some ⟨gc, 0, none⟩) (List.replicate n ret0) := by
  have := (smRow h).take n
  rw [List.take_replicate, Nat.min_eq_left hn] at this
  exact this
theorem rep_ints {w : World} {ge N n : Nat} (hn : n ≤ N) (h : Blk w ge 3 (cellsL .i64 (List.replicate N 0))) : Row .i64 w (some ⟨ge, 0, none⟩) (List.replicate n 0) := by
  have := (Blk.row h).take n
  rw [List.take_replicate, Nat.min_eq_left hn] at this
  exact this
theorem lim_check {w : World} {gc ge N : Nat} (n m : Nat) (hn : n ≤ N) (hm : m ≤ N) (hN : N ≤ 1000000000) (hc : Blk w gc 28 (cellsG inc (List.replicate N ret0))) (he : Blk w ge 3 (cellsL .i64 (List.replicate N 0))) (a b : Int) (hab : chk false (List.replicate n ret0) (List.replicate m 0) = (a, b)) :
    Calls Tryd.prog 11 #[.agg #[.bool false, .slice (some ⟨gc, 0, none⟩) n N, .slice (some ⟨ge, 0, none⟩) m N]] w fun e w' => e = .returned (.agg #[.int .i64 a, .int .i64 b]) ∧ Below w.heap.size w w' := by
  have h := check_any false (some ⟨gc, 0, none⟩) (some ⟨ge, 0, none⟩) N N (List.replicate n ret0) (List.replicate m 0) w (by simpa using hn) (by omega) (by simp; omega) (by simpa using hm) (by simp; omega) (hide_ (rep_row hn hc)) (hide_ (rep_ints hm he))
  rw [List.length_replicate, List.length_replicate, hab] at h
  exact h
theorem lim_encode {w : World} {gc ge N : Nat} (n m : Nat) (hn : n ≤ N) (hm : m ≤ N) (hN : N ≤ 1000000000) (hc : Blk w gc 28 (cellsG inc (List.replicate N ret0))) (he : Blk w ge 3 (cellsL .i64 (List.replicate N 0))) (hab : Chk false (List.replicate n ret0) (List.replicate m 0)) :
    Calls Tryd.prog 12 #[.agg #[.bool false, .slice (some ⟨gc, 0, none⟩) n N, .slice (some ⟨ge, 0, none⟩) m N]] w fun e w' => (∃ v, e = .returned (.tuple #[v, .agg #[.int .i64 0, .int .i64 0]]) ∧ Hid (BOwn w' w.heap.size v (encP false (List.replicate n ret0) (List.replicate m 0)))) ∧ Below w.heap.size w w' := by
  have h := encode_any false (some ⟨gc, 0, none⟩) (some ⟨ge, 0, none⟩) N N (List.replicate n ret0) (List.replicate m 0) w (by simpa using hn) (by omega) (by simp; omega) (by simpa using hm) (by simp; omega) (hide_ (rep_row hn hc)) (hide_ (rep_ints hm he))
  rw [List.length_replicate, List.length_replicate] at h
  unfold encA at h
  rw [if_pos (chk_ok.2 hab), chk_ok.2 hab] at h
  exact h
theorem lm_of {w w1 W : World} {g gc ge : Nat} {cA cE : Array Value} (hA : cA.toList = cellsG inc (retL 1048577 0)) (hE : cE.toList = cellsL .i64 (List.replicate 1048577 0)) (hB : Below w.heap.size w w1) (hB2 : Below w1.heap.size w1 W) (hp : Blk W g 26 [.bool false, .slice (some ⟨gc, 0, none⟩) 1048577 1048577, .slice (some ⟨ge, 0, none⟩) 1048577 1048577]) (hc : Blk W gc 28 cA.toList) (he : Blk W ge 3 cE.toList) (hg : w1.heap.size ≤ gc) : LmM w W g gc ge 1048577 (retL 1048577 0) :=
  ⟨hp, by rw [← hA]; exact hc, by rw [← hE]; exact he, below_to hB hB2, Nat.le_trans hB.size hg⟩
set_option maxRecDepth 100000 in
set_option maxHeartbeats 8000000 in
theorem limits_any (w : World) (HT : Hid (TabB w.heap.size w)) : Calls Tryd.prog 3 #[] w fun e w' => e = .returned (.bool true) ∧ Below w.heap.size w w' := by
  have HAw := hide_ (awake_any w HT)
  obtain ⟨cA, hcA⟩ : ∃ c, madeCells #[.int .i64 0, .int .i64 0, .int .i64 0, .int .i64 0] (1048577 * 4) = c := ⟨_, rfl⟩
  obtain ⟨cE, hcE⟩ : ∃ c, madeCells #[.int .i64 0] 1048577 = c := ⟨_, rfl⟩
  have hmC : ∀ w, (Instr.makeSlice 23 (.int .i64 1048577) (.int .i64 1048577)).run Tryd.prog w = .ok (.slice (some ⟨w.heap.size, 0, none⟩) 1048577 1048577) (w.alloc (.cells cA 28)) := fun w => by rw [← hcA]; exact mkC 1048577 (by omega) w
  have hmE : ∀ w, (Instr.makeSlice 24 (.int .i64 1048577) (.int .i64 1048577)).run Tryd.prog w = .ok (.slice (some ⟨w.heap.size, 0, none⟩) 1048577 1048577) (w.alloc (.cells cE 3)) := fun w => by rw [← hcE]; exact mkE 1048577 (by omega) w
  have HA : Hid (cA.toList = cellsG inc (retL 1048577 0)) := hide_ (by rw [← hcA, madeC]; unfold retL; rw [List.replicate_zero, List.nil_append, Nat.sub_zero])
  have HE : Hid (cE.toList = cellsL .i64 (List.replicate 1048577 0)) := hide_ (by rw [← hcE, madeE])
  clear hcA hcE
  go_enter Tryd.func3, Tryd.ntmps3
  go_upto_region 3 with (go_at_call 9; refine HAw.out.mono ?_; rintro e w1 ⟨rfl, hB1⟩)
  have HB1 := hide_ hB1
  clear hB1 HAw
  go_cut [1] from 14 to 16 (fun x1 wc => ∃ (g gc ge : Nat) (wf : World), wf = wc ∧ x1 = .pointer (some ⟨g, 0, none⟩) ∧ Hid (LmM w wf g gc ge 1048577 (retL 1048577 0)))
  case first =>
    go_region
    all_goals go_wp2
    all_goals
      go_meet
      case rel =>
        first
        | exact ⟨_, _, _, _, rfl, rfl, hide_ (lm_of HA.out HE.out HB1.out (below3 _ _ _ _).drew (blk3 w1 _ _ _ _ _ _).1.drew (blk3 w1 _ _ _ _ _ _).2.1.drew (blk3 w1 _ _ _ _ _ _).2.2.drew (by omega))⟩
        | exact ⟨_, _, _, _, rfl, rfl, hide_ (lm_of HA.out HE.out HB1.out (below3 _ _ _ _).drew (blk3 w1 _ _ _ _ _ _).1.drew (blk3 w1 _ _ _ _ _ _).2.2.drew (blk3 w1 _ _ _ _ _ _).2.1.drew (by omega))⟩
        | exact ⟨_, _, _, _, rfl, rfl, hide_ (lm_of HA.out HE.out HB1.out (below3 _ _ _ _).drew (blk3 w1 _ _ _ _ _ _).2.1.drew (blk3 w1 _ _ _ _ _ _).1.drew (blk3 w1 _ _ _ _ _ _).2.2.drew (by omega))⟩
        | exact ⟨_, _, _, _, rfl, rfl, hide_ (lm_of HA.out HE.out HB1.out (below3 _ _ _ _).drew (blk3 w1 _ _ _ _ _ _).2.1.drew (blk3 w1 _ _ _ _ _ _).2.2.drew (blk3 w1 _ _ _ _ _ _).1.drew (by omega))⟩
        | exact ⟨_, _, _, _, rfl, rfl, hide_ (lm_of HA.out HE.out HB1.out (below3 _ _ _ _).drew (blk3 w1 _ _ _ _ _ _).2.2.drew (blk3 w1 _ _ _ _ _ _).1.drew (blk3 w1 _ _ _ _ _ _).2.1.drew (by omega))⟩
        | exact ⟨_, _, _, _, rfl, rfl, hide_ (lm_of HA.out HE.out HB1.out (below3 _ _ _ _).drew (blk3 w1 _ _ _ _ _ _).2.2.drew (blk3 w1 _ _ _ _ _ _).2.1.drew (blk3 w1 _ _ _ _ _ _).1.drew (by omega))⟩
  case rest =>
  obtain ⟨g, gc, ge, w2, rfl, rfl, HL⟩ := hcut
  clear hmC hmE HA HE HB1
  go_wp2_with fail
  go_loopw [2] (fun x2 wr => ∃ j : Nat, j ≤ 1048577 ∧ x2 = .int .i64 (j : Int) ∧ Hid (LmM w wr g gc ge 1048577 (retL 1048577 j))) (fun x2 _ => 1048577 - (intOf x2).toNat)
  case atStart => exact ⟨0, Nat.zero_le _, rfl, HL⟩
  case round =>
    obtain ⟨j, hj, rfl, HLj⟩ := hrel
    generalize wr = wq at *
    have p1 := HLj.out.p.cell 1; have p2 := HLj.out.p.cell 2
    simp at p1 p2
    by_cases hlt : j < 1048577
    · have hlt' : (j : Int) < 1048577 := by omega
      have c0 : wq.cell? ⟨gc, j * 4, none⟩ = some (.int .i64 0) := by
        have h2 := cellsG_at inc_len (retL 1048577 j) j 0 in0 (retL_at 1048577 j hlt) (by omega)
        rw [Nat.add_zero] at h2
        rw [HLj.out.c.cell, h2]
        rfl
      have cz := HLj.out.c.frozen (j * 4)
      have HL2 := hide_ (HLj.out.put hlt)
      go_wp2_with fail
      go_roundw
      case rel => exact ⟨j + 1, by omega, by go_num, HL2⟩
      case measure => simp [intOf]; omega
    · obtain rfl : j = 1048577 := by omega
      have HLr := HLj.out
      rw [retL_full] at HLr
      have HM := hide_ HLr
      clear HLr HLj HL p1 p2
      have pa : ∀ o, (wq.alloc o).cell? ⟨g, 1, none⟩ = some (.slice (some ⟨gc, 0, none⟩) 1048577 1048577) := fun o => by have := (HM.out.p.alloc o).cell 1; simpa using this
      have pb : ∀ o, (wq.alloc o).cell? ⟨g, 2, none⟩ = some (.slice (some ⟨ge, 0, none⟩) 1048577 1048577) := fun o => by have := (HM.out.p.alloc o).cell 2; simpa using this
      have p1 := HM.out.p.cell 1; have p2 := HM.out.p.cell 2
      simp at p1 p2
      go_upto_region 8 with fail
      go_region
      all_goals
        obtain ⟨w3, hw3⟩ : ∃ wx, wx = (wq.alloc (.cells #[.bool false, .slice (some ⟨gc, 0, none⟩) 1048576 1048577, .slice (some ⟨ge, 0, none⟩) 1048576 1048577] 26)).drew := ⟨_, rfl⟩
        have hB3 : Below wq.heap.size wq w3 := by rw [hw3]; exact (below1 _ _).drew
        have K3 : Hid (Blk w3 wq.heap.size 26 [.bool false, .slice (some ⟨gc, 0, none⟩) 1048576 1048577, .slice (some ⟨ge, 0, none⟩) 1048576 1048577]) := hide_ (by rw [hw3]; exact (Blk.newA wq _ _).drew)
        have HM3 := hide_ (HM.out.later hB3)
        have HGc : Hid (gc ≤ wq.heap.size) := hide_ (Nat.le_of_lt HM.out.c.lt)
        have HIs := hide_ (fun (e a x y : Int) w' => is_any e a x y w')
        rw [← hw3]
        clear hw3 hB3 pa pb p1 p2 HM
        have HGw : Hid (w.heap.size ≤ wq.heap.size) := hide_ (Nat.le_trans HM3.out.g1 (HGc.out))
        have Hz : Hid (Below w3.heap.size w3 w3) := hide_ (Below.refl _ _)
        have p0 := (HM3.out.later Hz.out).p.cell 0; have p1 := (HM3.out.later Hz.out).p.cell 1; have p2 := (HM3.out.later Hz.out).p.cell 2
        have q0 := (K3.out.later Hz.out).cell 0; have q1 := (K3.out.later Hz.out).cell 1; have q2 := (K3.out.later Hz.out).cell 2
        simp at p0 p1 p2 q0 q1 q2
        have HC0 := hide_ (lim_check 1048577 1048577 (by omega) (by omega) (by omega) (HM3.out.later Hz.out).c (HM3.out.later Hz.out).e 4 0 (chk_long (.inl (by rw [List.length_replicate]; omega))))
        go_wp2_with fail
        refine HC0.out.mono ?_
        rintro e wa0 ⟨rfl, hBa0⟩
        have HBa0 := hide_ (below_to Hz.out hBa0)
        clear hBa0 HC0 p0 p1 p2 q0 q1 q2
        go_wp2_with fail
        refine (HIs.out 4 0 4 0 _).mono ?_
        rintro e wb0 ⟨rfl, hBb0⟩
        have HBb0 := hide_ (below_to HBa0.out hBb0)
        clear hBb0 HBa0
        have p0 := (HM3.out.later HBb0.out).p.cell 0; have p1 := (HM3.out.later HBb0.out).p.cell 1; have p2 := (HM3.out.later HBb0.out).p.cell 2
        have q0 := (K3.out.later HBb0.out).cell 0; have q1 := (K3.out.later HBb0.out).cell 1; have q2 := (K3.out.later HBb0.out).cell 2
        simp at p0 p1 p2 q0 q1 q2
        have HC1 := hide_ (lim_check 1048577 1048576 (by omega) (by omega) (by omega) (HM3.out.later HBb0.out).c (HM3.out.later HBb0.out).e 4 0 (chk_long (.inl (by rw [List.length_replicate]; omega))))
        go_wp2_with fail
        refine HC1.out.mono ?_
        rintro e wa1 ⟨rfl, hBa1⟩
        have HBa1 := hide_ (below_to HBb0.out hBa1)
        clear hBa1 HC1 p0 p1 p2 q0 q1 q2
        go_wp2_with fail
        refine (HIs.out 4 0 4 0 _).mono ?_
        rintro e wb1 ⟨rfl, hBb1⟩
        have HBb1 := hide_ (below_to HBa1.out hBb1)
        clear hBb1 HBa1
        have p0 := (HM3.out.later HBb1.out).p.cell 0; have p1 := (HM3.out.later HBb1.out).p.cell 1; have p2 := (HM3.out.later HBb1.out).p.cell 2
        have q0 := (K3.out.later HBb1.out).cell 0; have q1 := (K3.out.later HBb1.out).cell 1; have q2 := (K3.out.later HBb1.out).cell 2
        simp at p0 p1 p2 q0 q1 q2
        have HC2 := hide_ (lim_check 1048576 1048577 (by omega) (by omega) (by omega) (HM3.out.later HBb1.out).c (HM3.out.later HBb1.out).e 4 0 (chk_long (.inr (by rw [List.length_replicate]; omega))))
        go_wp2_with fail
        refine HC2.out.mono ?_
        rintro e wa2 ⟨rfl, hBa2⟩
        have HBa2 := hide_ (below_to HBb1.out hBa2)
        clear hBa2 HC2 p0 p1 p2 q0 q1 q2
        go_wp2_with fail
        refine (HIs.out 4 0 4 0 _).mono ?_
        rintro e wb2 ⟨rfl, hBb2⟩
        have HBb2 := hide_ (below_to HBa2.out hBb2)
        clear hBb2 HBa2
        have p0 := (HM3.out.later HBb2.out).p.cell 0; have p1 := (HM3.out.later HBb2.out).p.cell 1; have p2 := (HM3.out.later HBb2.out).p.cell 2
        have q0 := (K3.out.later HBb2.out).cell 0; have q1 := (K3.out.later HBb2.out).cell 1; have q2 := (K3.out.later HBb2.out).cell 2
        simp at p0 p1 p2 q0 q1 q2
        have HC3 := hide_ (lim_check 1048576 1048576 (by omega) (by omega) (by omega) (HM3.out.later HBb2.out).c (HM3.out.later HBb2.out).e 0 0 (chk_ok.2 (ret_chk 1048576 1048576 (by omega) (by omega) (by omega))))
        go_wp2_with fail
        refine HC3.out.mono ?_
        rintro e wa3 ⟨rfl, hBa3⟩
        have HBa3 := hide_ (below_to HBb2.out hBa3)
        clear hBa3 HC3 p0 p1 p2 q0 q1 q2
        go_upto_region 11 with (go_at_call 10; refine (HIs.out 0 0 0 0 _).mono ?_; rintro e wb3 ⟨rfl, hBb3⟩)
        have HBb3 := hide_ (below_to HBa3.out hBb3)
        clear hBb3 HBa3
        have KQ := hide_ (K3.out.later HBb3.out)
        have HMq := hide_ (HM3.out.later HBb3.out)
        have q2 := KQ.out.cell 2; have qz := KQ.out.frozen 2
        simp at q2
        obtain ⟨w4, hw4⟩ : ∃ wx, wx = wb3.setCell ⟨wq.heap.size, 2, none⟩ (.slice (some ⟨ge, 0, none⟩) 3 1048577) := ⟨_, rfl⟩
        have hU4 : Upd (fun k => k = wq.heap.size) wb3 w4 := by rw [hw4]; exact (Upd.refl _ _).set _ _ (.inl rfl)
        have K4 : Hid (Blk w4 wq.heap.size 26 [.bool false, .slice (some ⟨gc, 0, none⟩) 1048576 1048577, .slice (some ⟨ge, 0, none⟩) 3 1048577]) := hide_ (by rw [hw4]; have := KQ.out.set 2 (.slice (some ⟨ge, 0, none⟩) 3 1048577); simpa using this)
        have KC4 : Hid (Blk w4 gc 28 (cellsG inc (List.replicate 1048577 ret0))) := hide_ (HMq.out.c.upd hU4 (fun e => by subst e; exact absurd (blk_type KQ.out HMq.out.c) (by decide)))
        have KE4 : Hid (Blk w4 ge 3 (cellsL .i64 (List.replicate 1048577 0))) := hide_ (HMq.out.e.upd hU4 (fun e => by subst e; exact absurd (blk_type KQ.out HMq.out.e) (by decide)))
        have HB4 : Hid (Below w.heap.size w w4) := hide_ (HMq.out.b.trans (hU4.below _ HMq.out.b.size (fun k e => by subst e; exact HGw.out)))
        have HEn := hide_ (lim_encode 1048576 3 (by omega) (by omega) (by omega) KC4.out KE4.out (ret_chk 1048576 3 (by omega) (by omega) (by omega)))
        obtain ⟨d1, d2, d3, d4⟩ := dec_enc (ret_chk 1048576 3 (by omega) (by omega) (by omega))
        have hlen := lim_len
        have HBy := hide_ (encP_bys false (List.replicate 1048576 ret0) (List.replicate 3 0))
        generalize encP false (List.replicate 1048576 ret0) (List.replicate 3 0) = lb at *
        go_upto_region 12 with fail
        rw [← hw4]
        clear hw4 hU4 q2 qz KQ HMq K3 HM3 HBb3
        have q0 := K4.out.cell 0; have q1 := K4.out.cell 1; have q2 := K4.out.cell 2
        simp at q0 q1 q2
        go_wp2_with fail
        refine HEn.out.mono ?_
        rintro e w5 ⟨⟨vb, rfl, HOb⟩, hB5⟩
        obtain ⟨ab, cb, hvb, hrb, hnb, hlb, hmb, hgb⟩ := own_open HOb.out rfl
        obtain ⟨gb, rfl, hgb1, hgb2, -, -⟩ := hgb (by omega)
        subst hvb
        obtain ⟨w6, hw6⟩ : ∃ wx, wx = w5.alloc (.cells #[.int .i64 0, .int .i64 0] 32) := ⟨_, rfl⟩
        have hB6 : Below w5.heap.size w5 w6 := by rw [hw6]; exact below1 _ _
        have KA : Hid (Blk w6 w5.heap.size 32 [.int .i64 0, .int .i64 0]) := hide_ (by rw [hw6]; exact Blk.newA w5 _ _)
        have HDb := hide_ (decode_any (some ⟨gb, 0, none⟩) cb lb w6 hlb (by omega) hnb HBy (hide_ (Row.later hrb hB6)) (hide_ (fun x hx => by injection hx with hx; subst hx; exact Nat.lt_of_lt_of_le hgb2 hB6.size)))
        rw [d1, d2, d3, d4] at HDb
        have HB46 := hide_ (below_to hB5 hB6)
        have HLb := hide_ hlen
        clear hlen
        generalize hlbn : lb.length = nb at *
        clear d1 d2 d3 d4 hlbn hB5 hB6 HEn q0 q1 q2 HOb hrb hgb HBy
        go_upto_region 13 with fail
        rw [← hw6]
        clear hw6
        go_wp2_with fail
        refine HDb.out.mono ?_
        rintro e w7 ⟨vX, vN, rfl, HoX, HoN, hB7⟩
        obtain ⟨aX, cX, hvX, hcX, -, hrX⟩ := HoX.out.row
        obtain ⟨aN, cN, hvN, hrN, -, hcN⟩ := HoN.out.row
        rw [List.length_replicate] at hvX hvN
        subst hvX hvN
        obtain ⟨w8, hw8⟩ : ∃ wx, wx = (w7.alloc (.cells #[.bool false, .slice aX 1048576 cX, .slice aN 3 cN] 26)).alloc (.cells #[.int .i64 0, .int .i64 0] 32) := ⟨_, rfl⟩
        have hB8 : Below w7.heap.size w7 w8 := by rw [hw8]; exact below2 _ _ _
        obtain ⟨kR, kF⟩ := blk2 w7 #[.bool false, .slice aX 1048576 cX, .slice aN 3 cN] #[.int .i64 0, .int .i64 0] 26 32
        rw [← hw8] at kR kF
        have KR := hide_ kR
        have KB := hide_ kF
        have HRX := hide_ (GRow.later hrX hB8)
        have HRN := hide_ (Row.later hrN hB8)
        have HB68 := hide_ (below_to hB7 hB8)
        have HB48 := hide_ (below_to HB46.out HB68.out)
        clear kR kF hrX hrN hB7 hB8 HoX HoN HDb
        go_upto_region 14 with fail
        rw [← hw8]
        clear hw8
        obtain ⟨wx1, hwx1⟩ : ∃ wx, wx = w8.alloc (.cells #[.int .u8 109, .int .u8 0, .int .u8 129, .int .u8 128, .int .u8 64] 5) := ⟨_, rfl⟩
        have hbx1 : Below w8.heap.size w8 wx1 := by rw [hwx1]; exact below1 _ _
        have kx1 : Blk wx1 w8.heap.size 5 (cellsL .u8 [109, 0, 129, 128, 64]) := by rw [hwx1]; exact Blk.newA w8 _ _
        have HD1 := hide_ (decode_any (some ⟨w8.heap.size, 0, none⟩) 5 [109, 0, 129, 128, 64] wx1 (by decide) (by decide) (fun h => by cases h) (hide_ (by unfold Bys; decide)) (hide_ (Blk.row kx1)) (hide_ (fun x hx => by injection hx with hx; subst hx; exact kx1.lt)))
        rw [lim_dec1] at HD1
        generalize decE [109, 0, 129, 128, 64] = de1 at *
        generalize decC [109, 0, 129, 128, 64] = dc1 at *
        generalize decN [109, 0, 129, 128, 64] = dn1 at *
        clear kx1
        go_wp2_with fail
        rw [← hwx1]
        clear hwx1
        refine HD1.out.mono ?_
        rintro e wy1 ⟨vx1, vn1, rfl, HX1, HN1, hBy1⟩
        obtain ⟨ax1, cx1, hvx1, -⟩ := HX1.out.row
        obtain ⟨an1, cn1, hvn1⟩ := HN1.out.slice
        subst hvx1 hvn1
        obtain ⟨wz1, hwz1⟩ : ∃ wx, wx = (wy1.alloc (.cells #[.bool de1, .slice ax1 dc1.length cx1, .slice an1 dn1.length cn1] 26)).alloc (.cells #[.int .i64 4, .int .i64 2] 32) := ⟨_, rfl⟩
        have hbz1 : Below wy1.heap.size wy1 wz1 := by rw [hwz1]; exact below2 _ _ _
        have KF1 : Hid (Blk wz1 (wy1.heap.size + 1) 32 [.int .i64 4, .int .i64 2]) := hide_ (by rw [hwz1]; exact (blk2 wy1 _ _ _ _).2)
        have HBz1 := hide_ (below_to (below_to hbx1 hBy1) hbz1)
        clear hbx1 hBy1 hbz1 HX1 HN1 HD1
        go_upto_region 15 with fail
        rw [← hwz1]
        clear hwz1
        obtain ⟨wx2, hwx2⟩ : ∃ wx, wx = wz1.alloc (.cells #[.int .u8 109, .int .u8 1, .int .u8 0, .int .u8 129, .int .u8 128, .int .u8 64] 5) := ⟨_, rfl⟩
        have hbx2 : Below wz1.heap.size wz1 wx2 := by rw [hwx2]; exact below1 _ _
        have kx2 : Blk wx2 wz1.heap.size 5 (cellsL .u8 [109, 1, 0, 129, 128, 64]) := by rw [hwx2]; exact Blk.newA wz1 _ _
        have HD2 := hide_ (decode_any (some ⟨wz1.heap.size, 0, none⟩) 6 [109, 1, 0, 129, 128, 64] wx2 (by decide) (by decide) (fun h => by cases h) (hide_ (by unfold Bys; decide)) (hide_ (Blk.row kx2)) (hide_ (fun x hx => by injection hx with hx; subst hx; exact kx2.lt)))
        rw [lim_dec2] at HD2
        generalize decE [109, 1, 0, 129, 128, 64] = de2 at *
        generalize decC [109, 1, 0, 129, 128, 64] = dc2 at *
        generalize decN [109, 1, 0, 129, 128, 64] = dn2 at *
        clear kx2
        go_wp2_with fail
        rw [← hwx2]
        clear hwx2
        refine HD2.out.mono ?_
        rintro e wy2 ⟨vx2, vn2, rfl, HX2, HN2, hBy2⟩
        obtain ⟨ax2, cx2, hvx2, -⟩ := HX2.out.row
        obtain ⟨an2, cn2, hvn2⟩ := HN2.out.slice
        subst hvx2 hvn2
        obtain ⟨wz2, hwz2⟩ : ∃ wx, wx = (wy2.alloc (.cells #[.bool de2, .slice ax2 dc2.length cx2, .slice an2 dn2.length cn2] 26)).alloc (.cells #[.int .i64 4, .int .i64 3] 32) := ⟨_, rfl⟩
        have hbz2 : Below wy2.heap.size wy2 wz2 := by rw [hwz2]; exact below2 _ _ _
        have KF2 : Hid (Blk wz2 (wy2.heap.size + 1) 32 [.int .i64 4, .int .i64 3]) := hide_ (by rw [hwz2]; exact (blk2 wy2 _ _ _ _).2)
        have HBz2 := hide_ (below_to (below_to hbx2 hBy2) hbz2)
        clear hbx2 hBy2 hbz2 HX2 HN2 HD2
        go_upto_region 16 with fail
        rw [← hwz2]
        clear hwz2
        have HBe := hide_ (below_to HBz1.out HBz2.out)
        have HB4e := hide_ (below_to HB48.out HBe.out)
        have KAe := hide_ (KA.out.later (below_to HB68.out HBe.out))
        have KBe := hide_ (KB.out.later HBe.out)
        have KRe := hide_ (KR.out.later HBe.out)
        have KF1e := hide_ (KF1.out.later HBz2.out)
        have K4e := hide_ (K4.out.later HB4e.out)
        have KC4e := hide_ (KC4.out.later HB4e.out)
        have KE4e := hide_ (KE4.out.later HB4e.out)
        have HRXe := hide_ (GRow.later HRX.out HBe.out)
        have HRNe := hide_ (Row.later HRN.out HBe.out)
        have HBB := hide_ (below_to HB4.out HB4e.out)
        clear KA KB KR KF1 K4 KC4 KE4 HRX HRN HB4e HBe HB48 HB68 HB46
        have HEq : Hid (∀ w', Below wz2.heap.size wz2 w' → Calls Tryd.prog 14 #[.agg #[.bool false, .slice (some ⟨gc, 0, none⟩) 1048576 1048577, .slice (some ⟨ge, 0, none⟩) 3 1048577], .agg #[.bool false, .slice aX 1048576 cX, .slice aN 3 cN]] w' fun e w'' => e = .returned (.bool true) ∧ Below w'.heap.size w' w'') := hide_ (fun w' hb => by
          have h := equal_any false false (some ⟨gc, 0, none⟩) aX (some ⟨ge, 0, none⟩) aN 1048577 cX 1048577 cN (List.replicate 1048576 ret0) (List.replicate 1048576 ret0) (List.replicate 3 0) (List.replicate 3 0) w' (by rw [List.length_replicate]; omega) (by rw [List.length_replicate]; omega) (by rw [List.length_replicate]; omega) (by rw [List.length_replicate]; omega) (hide_ (rep_row (by omega) (KC4e.out.later hb))) (hide_ (GRow.later HRXe.out hb)) (hide_ (rep_ints (by omega) (KE4e.out.later hb))) (hide_ (Row.later HRNe.out hb))
          rw [List.length_replicate, List.length_replicate, eqP_iff.2 ⟨rfl, rfl, rfl⟩] at h
          exact h)
        have a0 := KAe.out.cell 0; have a1 := KAe.out.cell 1
        simp at a0 a1
        go_wp2_with fail
        refine (HIs.out 0 0 0 0 _).mono ?_
        rintro e v1 ⟨rfl, hv1⟩
        have HV1 := hide_ hv1
        have b0 := (KBe.out.later hv1).cell 0; have b1 := (KBe.out.later hv1).cell 1
        simp at b0 b1
        clear hv1 a0 a1
        go_wp2_with fail
        refine (HIs.out 0 0 0 0 _).mono ?_
        rintro e v2 ⟨rfl, hv2⟩
        have HV2 := hide_ (below_to HV1.out hv2)
        have c0 := (K4e.out.later HV2.out).cell 0; have c1 := (K4e.out.later HV2.out).cell 1; have c2 := (K4e.out.later HV2.out).cell 2
        have e0 := (KRe.out.later HV2.out).cell 0; have e1 := (KRe.out.later HV2.out).cell 1; have e2 := (KRe.out.later HV2.out).cell 2
        simp at c0 c1 c2 e0 e1 e2
        clear hv2 b0 b1
        go_wp2_with fail
        refine (HEq.out _ HV2.out).mono ?_
        rintro e v3 ⟨rfl, hv3⟩
        have HV3 := hide_ (below_to HV2.out hv3)
        clear hv3 c0 c1 c2 e0 e1 e2
        have hnb2 : ((nb : Int) == 1048585) = true := by rw [HLb.out]; rfl
        have f0 := (KF1e.out.later HV3.out).cell 0; have f1 := (KF1e.out.later HV3.out).cell 1
        simp at f0 f1
        go_wp2_with fail
        refine (HIs.out 4 2 4 2 _).mono ?_
        rintro e v4 ⟨rfl, hv4⟩
        have HV4 := hide_ (below_to HV3.out hv4)
        clear hv4 f0 f1
        have f0 := (KF2.out.later HV4.out).cell 0; have f1 := (KF2.out.later HV4.out).cell 1
        simp at f0 f1
        go_wp2_with (go_at_call 10; refine (HIs.out 4 3 4 3 _).mono ?_; rintro e v5 ⟨rfl, hv5⟩)
        go_ret
        exact ⟨rfl, below_to HBB.out (below_to HV4.out hv5)⟩
end Go.Proofs.YtkolbdgippplbaaDoor
