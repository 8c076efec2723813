import Derived.Test.YtimopjkeclppmaaGreatPart28
import Derived.BigQuiet
import Derived.Test.YtimopjkeclppmaaGreatPart01

/- FlowWays: walk. -/
namespace Go.Proofs.YtimopjkeclppmaaGreat
open Go.RowKit
set_option linter.unusedVariables false
set_option linter.unusedSimpArgs false

set_option maxRecDepth 100000 in
set_option maxHeartbeats 4000000 in
theorem rest18_any (n m : Int) (w : World) (hm : 0 < m) (hm2 : m ≤ 1000000000000) : Calls Tryz.prog 14 #[.int .i64 n, .int .i64 m] w fun e w' => e = .returned (.int .i64 (restP n m)) ∧ w = w' := by
  have hz : (m == 0) = false := by simp; omega
  have h1 : -m < n.tmod m ∧ n.tmod m < m := by
    rcases Int.le_total 0 n with h | h
    · have := Int.tmod_nonneg m h
      have := Int.tmod_lt_of_pos n hm
      omega
    · have h2 : n.tmod m = -((-n).tmod m) := by rw [Int.neg_tmod, Int.neg_neg]
      have h3 := Int.tmod_lt_of_pos (-n) hm
      have h4 := Int.tmod_nonneg m (show 0 ≤ -n by omega)
      omega
  obtain ⟨r, hr⟩ : ∃ r, restP n m = r := ⟨_, rfl⟩
  rw [hr]
  unfold restP at hr
  have h5 := restP_in (n := n) hm
  unfold restP at h5
  generalize hq : n.tmod m = q at *
  generalize hs : (q + m).tmod m = t at *
  have HR := hide_ hr
  have HQ := hide_ hq
  clear hr
  go_enter Tryz.func14, Tryz.ntmps14
  go_wp2
  go_ret
  exact ⟨by rw [← HR.out]; rfl, rfl⟩
set_option maxRecDepth 100000 in
set_option maxHeartbeats 16000000 in
theorem target_any (x : In) (w : World) : Calls Tryz.prog 31 #[.agg #[.int .i64 x.op, .int .i64 x.a, .int .i64 x.b, .int .i64 x.c]] w fun e w' => e = .returned (.bool (htP x.op)) ∧ Hid (Below w.heap.size w w') := by
  obtain ⟨d, hd⟩ : ∃ d, htP x.op = d := ⟨_, rfl⟩
  rw [hd]
  unfold htP at hd
  have Hd := hide_ hd
  clear hd
  obtain ⟨w1, hw1⟩ : ∃ wx, w.alloc (.cells #[.int .i64 x.op, .int .i64 x.a, .int .i64 x.b, .int .i64 x.c] 46) = wx := ⟨_, rfl⟩
  have HB1 : Hid (Below w.heap.size w w1) := hide_ (by rw [← hw1]; exact below1 _ _)
  have KX : Blk w1 w.heap.size 46 (inc x) := by rw [← hw1]; exact Blk.newA w _ _
  obtain ⟨i0, -, -, -⟩ := KX.ci
  clear KX
  cases d
  · have h := of_decide_eq_false Hd.out
    have f1 : (x.op == 7) = false := by simp; omega
    have f2 : (x.op == 9) = false := by simp; omega
    have f3 : (x.op == 11) = false := by simp; omega
    have f4 : (x.op == 12) = false := by simp; omega
    have f5 : (x.op == 13) = false := by simp; omega
    have f6 : (x.op == 14) = false := by simp; omega
    have f7 : (x.op == 15) = false := by simp; omega
    have f8 : (x.op == 19) = false := by simp; omega
    have f9 : (x.op == 40) = false := by simp; omega
    have f10 : (x.op == 47) = false := by simp; omega
    clear h
    go_enter Tryz.func31, Tryz.ntmps31
    go_upto_region 1 with fail
    try rw [hw1]
    clear hw1
    go_wp2
    go_ret
    exact ⟨rfl, HB1⟩
  · have h := of_decide_eq_true Hd.out
    have H := hide_ h
    clear h Hd
    go_enter Tryz.func31, Tryz.ntmps31
    go_upto_region 1 with fail
    try rw [hw1]
    clear hw1
    rcases H.out with h | h | h | h | h | h | h | h | h | h <;> (rw [h] at i0; clear H h; go_wp2; go_ret; exact ⟨rfl, HB1⟩)
/-- What a walk trusts in. -/
structure WkOk (C : List In) : Prop where
  len : C.length ≤ 1048576
  arm : ∀ k, k < C.length → (inA C k).op = 8 ∨ (inA C k).op = 41 → 1 ≤ (inA C k).a ∧ (inA C k).a ≤ 64 ∧ (k : Int) + 1 + (inA C k).a ≤ C.length
theorem WkOk.th {C : List In} (h : WkOk C) : WkOk (thC C) := by
  refine ⟨by rw [thC_len]; exact h.len, fun k hk ho => ?_⟩
  rw [thC_len] at hk ⊢
  rw [thC_at hk] at ho ⊢
  rw [(thI_op C _).1] at ho
  rw [(thI_op C _).2]
  exact h.arm k hk ho
/-- What walk answers. -/
def WlTo (w : World) (R : List In) (e : Ending) (w' : World) : Prop := ∃ v, e = .returned v ∧ COwn w' w.heap.size v R ∧ Below w.heap.size w w'
/-- Its memory. -/
structure WlM (w0 w : World) (enc : Bool) (ac ae : Option Addr) (n cc ne ce : Nat) (v : Value) (o : List In) : Prop where
  pg : Blk w w0.heap.size 25 [.bool enc, .slice ac n cc, .slice ae ne ce]
  ou : COwn w w0.heap.size v o
  bl : Below w0.heap.size w0 w
theorem WlM.later {w0 w w' : World} {enc : Bool} {ac ae : Option Addr} {n cc ne ce : Nat} {v : Value} {o : List In} (h : WlM w0 w enc ac ae n cc ne ce v o) (hB : Below w.heap.size w w') : WlM w0 w' enc ac ae n cc ne ce v o := ⟨h.pg.later hB, h.ou.later hB, below_to h.bl hB⟩
theorem WlM.push {w0 w : World} {enc : Bool} {ac ae : Option Addr} {n cc ne ce : Nat} {v : Value} {o : List In} (h : WlM w0 w enc ac ae n cc ne ce v o) (x : In) (hl : o.length ≤ 300) :
    ∃ g c w', (Builtin.append_ #[22, 22] 22 #[v, .slice (some ⟨w.heap.size, 0, none⟩) 1 1]).run Tryz.prog (w.alloc (.cells #[.int .i64 x.op, .int .i64 x.a, .int .i64 x.b, .int .i64 x.c] 46)) = .ok (.slice (some ⟨g, 0, none⟩) (o.length + 1) c) w' ∧
      WlM w0 w' enc ac ae n cc ne ce (.slice (some ⟨g, 0, none⟩) (o.length + 1) c) (o ++ [x]) ∧ Upd (fun k => v.ownBlock = some k) w w' := by
  obtain ⟨g, c, w', h1, h2, h3, -⟩ := h.ou.push x (by omega) h.bl.size
  exact ⟨g, c, w', h1, ⟨h.pg.upd h3 (fun e => notC h.ou h.pg (by decide) e), h2, below_to2 h.bl h3 (fun q e => (h.ou.lies e).1)⟩, h3⟩
set_option maxRecDepth 100000 in
set_option maxHeartbeats 16000000 in
theorem walk_any (enc : Bool) (ac ae ap : Option Addr) (cc ce cp n ne np : Nat) (C : List In) (ps : List Int) (a : Int) (w : World) (hn : C.length = n) (hnp : ps.length = np) (hW : Hid (WkOk C)) (hC : Hid (IRow w ac C)) (hP : Hid (Row .i64 w ap ps)) :
    Calls Tryz.prog 15 #[.agg #[.bool enc, .slice ac n cc, .slice ae ne ce], .int .i64 a, .slice ap np cp] w fun e w' => WlTo w (wkF C ps 2000 a 0 []) e w' := by
  obtain ⟨R, hR⟩ : ∃ R, wkF C ps 2000 a 0 [] = R := ⟨_, rfl⟩
  rw [hR]
  have hnb : n ≤ 1048576 := by rw [← hn]; exact hW.out.len
  obtain ⟨w1, hw1⟩ : ∃ wx, w.alloc (.cells #[.bool enc, .slice ac n cc, .slice ae ne ce] 25) = wx := ⟨_, rfl⟩
  have HM1 : Hid (WlM w w1 enc ac ae n cc ne ce (.slice none 0 0) []) := hide_ ⟨by rw [← hw1]; exact Blk.newA w _ _, COwn.nil _ _, by rw [← hw1]; exact below1 _ _⟩
  have HC : Hid (∀ w', Below w.heap.size w w' → IRow w' ac C) := hide_ (fun w' h => hC.out.later h)
  have HPs : Hid (∀ w', Below w.heap.size w w' → Row .i64 w' ap ps) := hide_ (fun w' h => hP.out.later h)
  have HR := hide_ hR
  have Hn := hide_ hn
  have Hnp := hide_ hnp
  clear hR hn hnp hC hP
  go_enter Tryz.func15, Tryz.ntmps15
  go_upto_region 1 with fail
  try rw [hw1]
  clear hw1
  go_wp2_with fail
  go_loopw [1, 7, 8, 9] (fun x1 x7 x8 x9 wr => ∃ (at_ : Int) (v : Value) (nn st : Nat) (o : List In), x1 = .int .i64 at_ ∧ v = x7 ∧ x8 = .int .i64 (nn : Int) ∧ x9 = .int .i64 (st : Int) ∧ st ≤ 2000 ∧ nn ≤ 300 ∧ Hid (o.length = nn) ∧ Hid (wkF C ps (2000 - st) at_ nn o = R) ∧ Hid (WlM w wr enc ac ae n cc ne ce v o)) (fun _ _ _ x9 _ => 2000 - (intOf x9).toNat)
  case atStart => exact ⟨a, _, 0, 0, [], rfl, rfl, rfl, rfl, by omega, by omega, hide_ rfl, HR, HM1⟩
  case round =>
    clear HR HM1
    obtain ⟨at_, v, nn, st, o, rfl, rfl, rfl, rfl, hst, hnn, HLo, HRj, HMj⟩ := hrel
    generalize wr = wq at *
    obtain ⟨cnd, hcnd⟩ : ∃ cnd, decide (st < 2000 ∧ nn < np ∧ nn < 300 ∧ 0 ≤ at_ ∧ at_ < (n : Int)) = cnd := ⟨_, rfl⟩
    have Hcn := hide_ hcnd
    have q1 := HMj.out.pg.cell 1
    simp at q1
    clear hcnd
    go_upto_region 4 with fail
    go_cut [35] from 13 to 35 (fun x35 wc => x35 = .bool cnd ∧ wq = wc)
    case first =>
      by_cases h1 : st < 2000
      · have f1 : decide ((st : Int) < 2000) = true := decide_eq_true (by omega)
        by_cases h2 : nn < np
        · have f2 : decide ((nn : Int) < (np : Int)) = true := decide_eq_true (by omega)
          by_cases h3 : nn < 300
          · have f3 : decide ((nn : Int) < 300) = true := decide_eq_true (by omega)
            by_cases h4 : 0 ≤ at_
            · have f4 : decide (0 ≤ at_) = true := decide_eq_true h4
              by_cases h5 : at_ < (n : Int)
              · have f5 : decide (at_ < (n : Int)) = true := decide_eq_true h5
                have e1 : true = cnd := by rw [← Hcn.out]; exact (decide_eq_true ⟨h1, h2, h3, h4, h5⟩).symm
                subst e1
                go_wp2_with fail
                go_meet
                case rel => exact ⟨rfl, rfl⟩
              · have f5 : decide (at_ < (n : Int)) = false := decide_eq_false h5
                have e1 : false = cnd := by rw [← Hcn.out]; exact (decide_eq_false (fun h => h5 h.2.2.2.2)).symm
                subst e1
                go_wp2_with fail
                go_meet
                case rel => exact ⟨rfl, rfl⟩
            · have f4 : decide (0 ≤ at_) = false := decide_eq_false h4
              have e1 : false = cnd := by rw [← Hcn.out]; exact (decide_eq_false (fun h => h4 h.2.2.2.1)).symm
              subst e1
              go_wp2_with fail
              go_meet
              case rel => exact ⟨rfl, rfl⟩
          · have f3 : decide ((nn : Int) < 300) = false := decide_eq_false (by omega)
            have e1 : false = cnd := by rw [← Hcn.out]; exact (decide_eq_false (fun h => h3 h.2.2.1)).symm
            subst e1
            go_wp2_with fail
            go_meet
            case rel => exact ⟨rfl, rfl⟩
        · have f2 : decide ((nn : Int) < (np : Int)) = false := decide_eq_false (by omega)
          have e1 : false = cnd := by rw [← Hcn.out]; exact (decide_eq_false (fun h => h2 h.2.1)).symm
          subst e1
          go_wp2_with fail
          go_meet
          case rel => exact ⟨rfl, rfl⟩
      · have f1 : decide ((st : Int) < 2000) = false := decide_eq_false (by omega)
        have e1 : false = cnd := by rw [← Hcn.out]; exact (decide_eq_false (fun h => h1 h.1)).symm
        subst e1
        go_wp2_with fail
        go_meet
        case rel => exact ⟨rfl, rfl⟩
    case rest =>
    obtain ⟨rfl, rfl⟩ := hcut
    clear q1
    cases cnd
    · have e1 : o = R := by
        rw [← HRj.out]
        have h1 := of_decide_eq_false Hcn.out
        by_cases h2 : st < 2000
        · rw [show 2000 - st = (1999 - st) + 1 by omega, wkF, if_neg]
          rw [Hnp.out, Hn.out]
          intro h3
          exact h1 ⟨h2, h3.1, h3.2.1, h3.2.2.1, h3.2.2.2⟩
        · rw [show 2000 - st = 0 by omega, wkF]
      have HX : Hid (WlTo w R (.returned v) wq) := hide_ ⟨v, rfl, by rw [← e1]; exact HMj.out.ou, HMj.out.bl⟩
      clear e1
      go_wp2_with fail
      go_ret
      exact HX.out
    · obtain ⟨h1, h2, h3, h4, h5⟩ := of_decide_eq_true Hcn.out
      obtain ⟨k, hk⟩ := Int.eq_ofNat_of_zero_le h4
      subst hk
      have hkn : k < n := by omega
      have hkC : k < C.length := by rw [Hn.out]; exact hkn
      obtain ⟨x, hx⟩ : ∃ x, C[k]? = some x := ⟨_, List.getElem?_eq_getElem hkC⟩
      have hxA : inA C k = x := inA_at hx
      obtain ⟨bc, oc, hac, -⟩ := (HC.out wq HMj.out.bl).open (by omega)
      subst hac
      obtain ⟨i0, i1, i2, i3⟩ := (HC.out wq HMj.out.bl).at hx
      have hRs := HRj.out
      rw [show 2000 - st = (2000 - (st + 1)) + 1 by omega, wkF, if_pos (by rw [Hnp.out, Hn.out]; exact ⟨h2, h3, h4, h5⟩), Int.toNat_natCast, hxA] at hRs
      have HRs := hide_ hRs
      have HxA := hide_ hxA
      have q1 := HMj.out.pg.cell 1
      simp at q1
      obtain ⟨w2, hw2⟩ : ∃ wx, wq.alloc (.cells #[.int .i64 x.op, .int .i64 x.a, .int .i64 x.b, .int .i64 x.c] 46) = wx := ⟨_, rfl⟩
      have hB2 : Below wq.heap.size wq w2 := by rw [← hw2]; exact below1 _ _
      have HX2 : Hid (Blk w2 wq.heap.size 46 (inc x)) := hide_ (by rw [← hw2]; exact Blk.newA wq _ _)
      have HM2 := hide_ (HMj.out.later hB2)
      obtain ⟨k0, k1, k2, k3⟩ := HX2.out.ci
      have hstw : IntKind.i64.wrap ((st : Int) + 1) = ((st + 1 : Nat) : Int) := by rw [i64w _ (by omega)]; omega
      have Hwb : Hid (w.heap.size ≤ wq.heap.size) := hide_ HMj.out.bl.size
      have Hvb : Hid (∀ q, v.ownBlock = some q → q < wq.heap.size) := hide_ (fun q e => (HMj.out.ou.lies e).2)
      clear hRs HRj hx hxA hB2 HMj
      go_upto_region 7 with fail
      try rw [hw2]
      clear hw2 i0 i1 i2 i3 q1
      obtain ⟨b1, hb1⟩ : ∃ b1, wq.heap.size = b1 := ⟨_, rfl⟩
      rw [hb1] at HX2 k0 k1 k2 k3 Hvb Hwb
      try rw [hb1]
      clear hb1
      by_cases hj : x.op = 19
      · have f0 : (x.op == 19) = true := by simpa using hj
        have HR3 : Hid (wkF C ps (2000 - (st + 1)) x.b nn o = R) := hide_ (by have h := HRs.out; rw [if_pos hj] at h; exact h)
        clear hj HRs
        go_wp2_with fail
        go_roundw
        case rel => exact ⟨x.b, v, nn, st + 1, o, rfl, rfl, rfl, by go_num, by omega, by omega, HLo, HR3, HM2⟩
        case measure => simp [intOf]; omega
      · have f0 : (x.op == 19) = false := by simpa using hj
        obtain ⟨w3, hw3⟩ : ∃ wx, w2.alloc (.cells #[.int .i64 x.op, .int .i64 x.a, .int .i64 x.b, .int .i64 x.c] 46) = wx := ⟨_, rfl⟩
        have hB3 : Below w2.heap.size w2 w3 := by rw [← hw3]; exact below1 _ _
        have hY3 : Blk w3 w2.heap.size 46 (inc x) := by rw [← hw3]; exact Blk.newA w2 _ _
        have HX3 := hide_ (HX2.out.later hB3)
        have HM3 := hide_ (HM2.out.later hB3)
        have Hb12 : Hid (b1 < w2.heap.size) := hide_ HX2.out.lt
        have HT3 := hide_ (target_any x w3)
        obtain ⟨m0, m1, m2, m3⟩ := HX3.out.ci
        have HY3 := hide_ hY3
        have Hj := hide_ hj
        clear hB3 hY3 HX2 HM2 hj
        go_upto_region 10 with fail
        try rw [hw3]
        clear hw3 k0 k1 k2 k3
        obtain ⟨b2, hb2⟩ : ∃ b2, w2.heap.size = b2 := ⟨_, rfl⟩
        rw [hb2] at HY3 Hb12
        try rw [hb2]
        clear hb2
        go_wp2_with fail
        refine HT3.out.mono ?_
        rintro e w4 ⟨rfl, HB4⟩
        have HX4 := hide_ (HX3.out.later HB4.out)
        have HY4 := hide_ (HY3.out.later HB4.out)
        have HM4 := hide_ (HM3.out.later HB4.out)
        clear m0 m1 m2 m3 HT3 HX3 HY3 HM3 HB4
        obtain ⟨p, hp⟩ : ∃ p, hAt ps nn = p := ⟨_, rfl⟩
        rw [hp] at HRs
        have Hp := hide_ hp
        clear hp
        obtain ⟨bp, op, hap, -⟩ := (HPs.out w4 HM4.out.bl).open (by rw [Hnp.out]; omega)
        subst hap
        have HPc : Hid (∀ w', Below w.heap.size w w' → w'.cell? ⟨bp, op + nn, none⟩ = some (.int .i64 p)) := hide_ (fun w' hB => by
          obtain ⟨bp', op', e, -, hc⟩ := (HPs.out w' hB).open (by rw [Hnp.out]; omega)
          injection e with e
          injection e with e1 e2
          subst e1 e2
          have h6 := hc nn (by rw [Hnp.out]; exact h2)
          have h7 : ps.getD nn 0 = p := Hp.out
          rw [h7] at h6
          exact h6)
        have h2' : (nn : Int) < (np : Int) := by omega
        have hnw : IntKind.i64.wrap ((nn : Int) + 1) = ((nn + 1 : Nat) : Int) := by rw [i64w _ (by omega)]; omega
        obtain ⟨d, hd⟩ : ∃ d, htP x.op = d := ⟨_, rfl⟩
        rw [hd]
        have Hd := hide_ hd
        clear hd
        cases d
        · have e0 : emI x = x := by unfold emI; rw [if_neg (by rw [Hd.out]; simp)]
          rw [e0, if_neg Hj.out] at HRs
          obtain ⟨g5, c5, w5, hr5, hM5, hU5⟩ := HM4.out.push x (by rw [HLo.out]; omega)
          rw [HLo.out] at hr5 hM5
          have HRun := hide_ hr5
          have HM5 := hide_ hM5
          have HX5 := hide_ (HX4.out.upd hU5 (fun e => by have := Hvb.out _ e; omega))
          have HL5 : Hid ((o ++ [x]).length = nn + 1) := hide_ (by rw [List.length_append, HLo.out]; rfl)
          obtain ⟨j0, j1, j2, j3⟩ := HY4.out.ci
          have HRe := hide_ (rest18_any p 2 w5 (by omega) (by omega))
          obtain ⟨r2, hr2⟩ : ∃ r2, restP p 2 = r2 := ⟨_, rfl⟩
          rw [hr2] at HRe
          have Hr2 := hide_ hr2
          have cp5 := HPc.out w5 HM5.out.bl
          clear e0 hr5 hM5 hU5 hr2 HX4
          go_wp2_with (first | (at_builtin; refine wpList_append_run rfl (.tmp 52) (.tmp 54) 22 22 rfl rfl rfl HRun.out ?_; clear HRun) | fail)
          refine HRe.out.mono ?_
          rintro e w6 ⟨rfl, rfl⟩
          clear j0 j1 j2 j3 HY4 HM4 HRe
          obtain ⟨k0, k1, k2, k3⟩ := HX5.out.ci
          by_cases h20 : x.op = 20
          · have g0 : (x.op == 20) = true := by simpa using h20
            have e1 : o ++ [x] = R := by have h := HRs.out; rw [if_pos h20] at h; exact h
            have HX : Hid (WlTo w R (.returned (.slice (some ⟨g5, 0, none⟩) (nn + 1) c5)) w5) := hide_ ⟨_, rfl, by rw [← e1]; exact HM5.out.ou, HM5.out.bl⟩
            clear h20 e1
            go_wp2_with fail
            go_ret
            exact HX.out
          · have g0 : (x.op == 20) = false := by simpa using h20
            have hRn := HRs.out
            rw [if_neg h20] at hRn
            unfold wkN at hRn
            clear h20 HRs
            by_cases hu : x.op = 8 ∨ x.op = 41
            · rw [if_pos hu] at hRn
              have ha := hW.out.arm k hkC (by rw [HxA.out]; exact hu)
              rw [HxA.out, Hn.out] at ha
              have hrr := restP_in (n := p) (m := x.a) (by omega)
              obtain ⟨r3, hr3⟩ := Int.eq_ofNat_of_zero_le hrr.1
              rw [hr3] at hRn hrr
              have HRe3 : Hid (∀ w', Calls Tryz.prog 14 #[.int .i64 p, .int .i64 x.a] w' fun e w'' => e = .returned (.int .i64 (r3 : Int)) ∧ w' = w'') := hide_ (fun w' => by
                have h := rest18_any p x.a w' (by omega) (by omega)
                rw [hr3] at h
                exact h)
              have hjn : k + 1 + r3 < n := by omega
              obtain ⟨y, hy⟩ : ∃ y, C[k + 1 + r3]? = some y := ⟨_, List.getElem?_eq_getElem (by rw [Hn.out]; exact hjn)⟩
              have hyA : inA C (k + 1 + r3) = y := inA_at hy
              rw [show ((k : Int) + 1 + (r3 : Int)).toNat = k + 1 + r3 by omega, hyA] at hRn
              have HRn := hide_ hRn
              obtain ⟨z0, z1, z2, z3⟩ := (HC.out w5 HM5.out.bl).at hy
              have q1 := HM5.out.pg.cell 1
              simp at q1
              have hw1 : IntKind.i64.wrap ((k : Int) + 1) = (k : Int) + 1 := i64w _ (by omega)
              have hw2 : IntKind.i64.wrap ((nn : Int) + 1 - 1) = (nn : Int) := by rw [i64w _ (by omega)]; omega
              have hw3 : IntKind.i64.wrap ((k : Int) + 1 + (r3 : Int)) = ((k + 1 + r3 : Nat) : Int) := by rw [i64w _ (by omega)]; omega
              have hjI : ((k + 1 + r3 : Nat) : Int) < (n : Int) := by omega
              have HMd : Hid (∀ q, WlM w (w5.drewN q) enc (some ⟨bc, oc, none⟩) ae n cc ne ce (.slice (some ⟨g5, 0, none⟩) (nn + 1) c5) (o ++ [x])) := hide_ (fun q => ⟨HM5.out.pg.drewN q, HM5.out.ou, below_drewN HM5.out.bl q⟩)
              have Hu := hide_ hu
              clear hRn hy hyA hrr hr3 ha hu z0 z1 z3
              go_upto_region 18 with fail
              go_cut [70] from 70 to 78 (fun x70 wc => x70 = .bool true ∧ w5 = wc)
              case first =>
                rcases Hu.out with h | h
                · rw [h] at k0
                  go_wp2_with fail
                  go_meet
                  case rel => exact ⟨rfl, rfl⟩
                · rw [h] at k0
                  go_wp2_with fail
                  go_meet
                  case rel => exact ⟨rfl, rfl⟩
              case rest =>
              obtain ⟨rfl, rfl⟩ := hcut
              go_wp2_with fail
              go_quiet (first | (go_at_call 14; exact Calls.quiet_of_same ((HRe3.out _).mono fun _ _ h => ⟨h.1, h.2.symm⟩)) | fail)
              go_wp2_with fail
              go_roundw
              case rel => exact ⟨y.b, _, nn + 1, st + 1, o ++ [x], rfl, rfl, by go_num, by go_num, by omega, by omega, HL5, HRn, hide_ (HMd.out _)⟩
              case measure => simp [intOf]; omega
            · rw [if_neg hu, if_neg (fun h => by rw [Hd.out] at h; cases h.1)] at hRn
              have HRn := hide_ hRn
              have g1 : (x.op == 8) = false := by simp; omega
              have g2 : (x.op == 41) = false := by simp; omega
              have hw1 : IntKind.i64.wrap ((k : Int) + 1) = (k : Int) + 1 := i64w _ (by omega)
              have HT5 := hide_ (target_any x w5)
              rw [Hd.out] at HT5
              clear hRn hu
              go_wp2_with fail
              refine HT5.out.mono ?_
              rintro e w7 ⟨rfl, HB7⟩
              have HM7 := hide_ (HM5.out.later HB7.out)
              clear HT5 HB7 HM5 k0 k1 k2 k3
              go_wp2_with fail
              go_roundw
              case rel => exact ⟨(k : Int) + 1, _, nn + 1, st + 1, o ++ [x], by go_num, rfl, by go_num, by go_num, by omega, by omega, HL5, HRn, HM7⟩
              case measure => simp [intOf]; omega
        · have e0 : emI x = ⟨x.op, x.a, 0, x.c⟩ := by unfold emI; rw [if_pos Hd.out]
          have hops := of_decide_eq_true (show decide (x.op = 7 ∨ x.op = 9 ∨ x.op = 11 ∨ x.op = 12 ∨ x.op = 13 ∨ x.op = 14 ∨ x.op = 15 ∨ x.op = 19 ∨ x.op = 40 ∨ x.op = 47) = true from Hd.out)
          have hRn := HRs.out
          rw [if_neg Hj.out, if_neg (show ¬ x.op = 20 by omega), e0] at hRn
          unfold wkN at hRn
          rw [if_neg (show ¬ (x.op = 8 ∨ x.op = 41) by omega)] at hRn
          obtain ⟨w5, hw5⟩ : ∃ wx, w4.setCell ⟨b2, 2, none⟩ (.int .i64 0) = wx := ⟨_, rfl⟩
          have hU5 : Upd (fun q => q = b2) w4 w5 := by rw [← hw5]; exact (Upd.refl (fun q => q = b2) w4).set ⟨b2, 2, none⟩ _ (.inl rfl)
          have hY5 : Blk w5 b2 46 (inc ⟨x.op, x.a, 0, x.c⟩) := by
            rw [← hw5]
            have := HY4.out.set 2 (.int .i64 0)
            simpa [inc] using this
          have hX5 := HX4.out.upd hU5 (fun e => by have := Hb12.out; omega)
          have hM5 : WlM w w5 enc (some ⟨bc, oc, none⟩) ae n cc ne ce v o := ⟨HM4.out.pg.upd hU5 (fun e => by
              have h1 := HM4.out.pg
              have e : w.heap.size = b2 := e
              rw [e] at h1
              exact absurd (blk_type h1 HY4.out) (by decide)), HM4.out.ou.upd hU5 (fun q e e2 => by have := Hvb.out q e; have := Hb12.out; omega), below_to2 HM4.out.bl hU5 (fun q e => by have := Hb12.out; have := HM4.out.bl.size; rw [e]; exact Nat.le_trans Hwb.out (Nat.le_of_lt Hb12.out))⟩
          obtain ⟨g6, c6, w6, hr6, hM6, hU6⟩ := hM5.push ⟨x.op, x.a, 0, x.c⟩ (by rw [HLo.out]; omega)
          rw [HLo.out] at hr6 hM6
          have HRun := hide_ hr6
          have HM6 := hide_ hM6
          have HX6 := hide_ (hX5.upd hU6 (fun e => by have := Hvb.out _ e; omega))
          have HL6 : Hid ((o ++ [(⟨x.op, x.a, 0, x.c⟩ : In)]).length = nn + 1) := hide_ (by rw [List.length_append, HLo.out]; rfl)
          obtain ⟨y0, y1, y2, y3⟩ := HY4.out.ci
          have yf := HY4.out.frozen 2
          obtain ⟨j0, j1, j2, j3⟩ := hY5.ci
          have HRe := hide_ (rest18_any p 2 w6 (by omega) (by omega))
          obtain ⟨r2, hr2⟩ : ∃ r2, restP p 2 = r2 := ⟨_, rfl⟩
          rw [hr2] at HRe hRn
          have cp6 := HPc.out w6 HM6.out.bl
          have HRn := hide_ hRn
          have g0 : (x.op == 20) = false := by simp; omega
          have g1 : (x.op == 8) = false := by simp; omega
          have g2 : (x.op == 41) = false := by simp; omega
          have HT6 := hide_ (target_any x w6)
          rw [Hd.out] at HT6
          clear e0 hops hRn hr6 hM6 hU6 hr2 hU5 hY5 hX5 hM5 HX4 HM4 HRs
          go_upto_region 12 with fail
          try rw [hw5]
          clear hw5 y0 y1 y2 y3 yf
          go_wp2_with (first | (at_builtin; refine wpList_append_run rfl (.tmp 52) (.tmp 54) 22 22 rfl rfl rfl HRun.out ?_; clear HRun) | fail)
          refine HRe.out.mono ?_
          rintro e w7 ⟨rfl, rfl⟩
          clear j0 j1 j2 j3 HRe HY4
          obtain ⟨k0, k1, k2, k3⟩ := HX6.out.ci
          go_wp2_with fail
          refine HT6.out.mono ?_
          rintro e w8 ⟨rfl, HB8⟩
          have HM8 := hide_ (HM6.out.later HB8.out)
          obtain ⟨l0, l1, l2, l3⟩ := (HX6.out.later HB8.out).ci
          clear HT6 HB8 HM6 k0 k1 k2 k3 HX6
          by_cases h1p : r2 = 1
          · have g3 : (r2 == 1) = true := by simpa using h1p
            have HR8 : Hid (wkF C ps (2000 - (st + 1)) x.b (nn + 1) (o ++ [⟨x.op, x.a, 0, x.c⟩]) = R) := hide_ (by have h := HRn.out; rw [if_pos ⟨Hd.out, h1p⟩] at h; exact h)
            clear h1p HRn
            go_wp2_with fail
            go_roundw
            case rel => exact ⟨x.b, _, nn + 1, st + 1, _, rfl, rfl, by go_num, by go_num, by omega, by omega, HL6, HR8, HM8⟩
            case measure => simp [intOf]; omega
          · have g3 : (r2 == 1) = false := by simpa using h1p
            have HR8 : Hid (wkF C ps (2000 - (st + 1)) ((k : Int) + 1) (nn + 1) (o ++ [⟨x.op, x.a, 0, x.c⟩]) = R) := hide_ (by have h := HRn.out; rw [if_neg (fun h => h1p h.2)] at h; exact h)
            have hw1 : IntKind.i64.wrap ((k : Int) + 1) = (k : Int) + 1 := i64w _ (by omega)
            clear h1p HRn
            go_wp2_with fail
            go_roundw
            case rel => exact ⟨(k : Int) + 1, _, nn + 1, st + 1, _, by go_num, rfl, by go_num, by go_num, by omega, by omega, HL6, HR8, HM8⟩
            case measure => simp [intOf]; omega
end Go.Proofs.YtimopjkeclppmaaGreat

/- FlowWays: the walk. -/
namespace Go.Proofs.YtimopjkeclppmaaGreat
open Go.RowKit
set_option linter.unusedVariables false
set_option linter.unusedSimpArgs false

theorem Chk.wkok {enc : Bool} {C : List In} {E : List Int} (h : Chk enc C E) : WkOk C := ⟨h.nc, h.cdok.arm⟩
theorem getI {l : List In} {i : Nat} (h : i < l.length) : l[i]? = some (inA l i) := by
  rw [List.getElem?_eq_getElem h]
  simp [inA, List.getD, h]
theorem wk_len (C : List In) (ps : List Int) : ∀ (s : Nat) (at_ : Int) (n : Nat) (o : List In), (wkF C ps s at_ n o).length ≤ o.length + s
  | 0, at_, n, o => by rw [wkF]; exact Nat.le_refl _
  | s + 1, at_, n, o => by
    rw [wkF]
    split
    · split
      · have := wk_len C ps s (inA C at_.toNat).b n o; omega
      · split
        · rw [List.length_append, List.length_singleton]; omega
        · have := wk_len C ps s (wkN C (inA C at_.toNat) at_ (hAt ps n)) (n + 1) (o ++ [emI (inA C at_.toNat)])
          rw [List.length_append, List.length_singleton] at this
          omega
    · omega
set_option maxRecDepth 100000 in
set_option maxHeartbeats 16000000 in
theorem fways_any (en : Bool) (a0 b0 ap : Option Addr) (c0 d0 cp : Nat) (P0 : List In) (E0 ps : List Int) (t : Int) (w : World) (hnil : a0 = none → c0 = 0) (hpl : ps.length ≤ 17592186044415) (h : Hid (PgI w a0 b0 c0 d0 P0 E0)) (hr : Hid (Row .i64 w ap ps)) :
    Calls Tryz.prog 4 #[.agg #[.bool en, .slice a0 P0.length c0, .slice b0 E0.length d0], .int .i64 t, .slice ap ps.length cp] w fun e w' => e = .returned (.bool true) ∧ Below w.heap.size w w' := by
  obtain ⟨C, hC⟩ : ∃ C, P0.take 300 = C := ⟨_, rfl⟩
  obtain ⟨E, hE⟩ : ∃ E, E0.take 60 = E := ⟨_, rfl⟩
  obtain ⟨n, hn⟩ : ∃ n, C.length = n := ⟨_, rfl⟩
  obtain ⟨m, hm⟩ : ∃ m, E.length = m := ⟨_, rfl⟩
  obtain ⟨np, hnp⟩ : ∃ np, ps.length = np := ⟨_, rfl⟩
  have hn300 : n ≤ 300 := by rw [← hn, ← hC, List.length_take]; omega
  have hm60 : m ≤ 60 := by rw [← hm, ← hE, List.length_take]; omega
  have hPg : PgI w a0 b0 c0 d0 C E := by rw [← hC, ← hE]; exact h.out.take 300 60
  have HPg := hide_ hPg
  obtain ⟨w1, hw1⟩ : ∃ wx, w.alloc (.cells #[.bool en, .slice a0 P0.length c0, .slice b0 E0.length d0] 25) = wx := ⟨_, rfl⟩
  have HB1 : Hid (Below w.heap.size w w1) := hide_ (by rw [← hw1]; exact below1 _ _)
  have HP1 : Hid (Blk w1 w.heap.size 25 [.bool en, .slice a0 P0.length c0, .slice b0 E0.length d0]) := hide_ (by rw [← hw1]; exact Blk.newA w _ _)
  have HAw := hide_ (awake18_any w1)
  have HCu : Hid (∀ w2, Below w.heap.size w w2 → Calls Tryz.prog 7 #[.agg #[.bool en, .slice a0 P0.length c0, .slice b0 E0.length d0]] w2 fun e w' => e = .returned (.agg #[.bool en, .slice a0 n c0, .slice b0 m d0]) ∧ Hid (Below w2.heap.size w2 w')) := hide_ (fun w2 hB => by
    have h1 := cut18_any en a0 b0 c0 d0 P0 E0 w2 (h.out.later hB)
    rw [hC, hE, hn, hm] at h1
    exact h1)
  have HTh : Hid (∀ w2, Below w.heap.size w w2 → Calls Tryz.prog 13 #[.agg #[.bool en, .slice a0 n c0, .slice b0 m d0]] w2 fun e w' => ThTo w2 en C E e w') := hide_ (fun w2 hB => by
    have h1 := thread_any en a0 b0 c0 d0 C E w2 hnil (hide_ (hPg.later hB))
    rw [hn, hm] at h1
    exact h1)
  obtain ⟨K, hK⟩ : ∃ K, vfP en C E = K := ⟨_, rfl⟩
  have HVe : Hid (∀ w2, Below w.heap.size w w2 → Calls Tryz.prog 10 #[.agg #[.bool en, .slice a0 n c0, .slice b0 m d0]] w2 fun e w' => e = .returned (.agg #[.int .i64 K.1, .int .i64 K.2]) ∧ Hid (Below w2.heap.size w2 w')) := hide_ (fun w2 hB => by
    have h1 := (hPg.later hB).verify en
    rw [hn, hm, hK] at h1
    exact h1)
  have Hn := hide_ hn
  have Hm := hide_ hm
  have Hnp := hide_ hnp
  have HK := hide_ hK
  rw [hnp]
  rw [hnp] at hpl
  clear hC hE hn hm hnp hPg hK h
  go_enter Tryz.func4, Tryz.ntmps4
  go_upto_region 1 with fail
  try rw [hw1]
  clear hw1
  go_wp2_with fail
  refine HAw.out.mono ?_
  rintro e w2 ⟨rfl, hB2⟩
  have HB2 := hide_ (below_to HB1.out hB2)
  have HCu2 := hide_ (HCu.out w2 HB2.out)
  have p0 := (HP1.out.later hB2).cell 0; have p1 := (HP1.out.later hB2).cell 1; have p2 := (HP1.out.later hB2).cell 2
  simp at p0 p1 p2
  clear hB2 HAw HB1 HP1 HCu
  go_wp2_with fail
  refine HCu2.out.mono ?_
  rintro e w3 ⟨rfl, HB3⟩
  obtain ⟨w4, hw4⟩ : ∃ wx, w3.alloc (.cells #[.bool en, .slice a0 n c0, .slice b0 m d0] 25) = wx := ⟨_, rfl⟩
  have hB4 : Below w3.heap.size w3 w4 := by rw [← hw4]; exact below1 _ _
  have HP4 : Hid (Blk w4 w3.heap.size 25 [.bool en, .slice a0 n c0, .slice b0 m d0]) := hide_ (by rw [← hw4]; exact Blk.newA _ _ _)
  have HB4 := hide_ (below_to (below_to HB2.out HB3.out) hB4)
  have HTh4 := hide_ (HTh.out w4 HB4.out)
  clear p0 p1 p2 HCu2 hB4 HB2 HB3 HTh
  go_upto_region 4 with fail
  try rw [hw4]
  clear hw4
  obtain ⟨b7, hb7⟩ : ∃ b7, w3.heap.size = b7 := ⟨_, rfl⟩
  rw [hb7] at HP4
  try rw [hb7]
  clear hb7
  have p0 := HP4.out.cell 0; have p1 := HP4.out.cell 1; have p2 := HP4.out.cell 2
  simp at p0 p1 p2
  go_wp2_with fail
  refine HTh4.out.mono ?_
  rintro e w5 hT
  have HQ : Hid (Below w4.heap.size w4 w5 ∧ ∃ eq aq nq cq az nz cz, e = .returned (.tuple #[.agg #[.bool eq, .slice aq nq cq, .slice az nz cz], .agg #[.int .i64 K.1, .int .i64 K.2]]) ∧ (K.1 = 0 → eq = en ∧ nq = n ∧ nz = m ∧ Chk en C E ∧ IRow w5 aq (thC C) ∧ Row .i64 w5 az (thE C E))) := hide_ (by
    obtain ⟨hB, ⟨h1, rfl⟩ | ⟨h1, h2, vC, vE, rfl, hO, hI⟩⟩ := hT
    · rw [HK.out] at h1
      refine ⟨hB, false, none, 0, 0, none, 0, 0, by rw [HK.out], fun h => absurd h h1⟩
    · obtain ⟨aq, cq, rfl, -, -, hrq⟩ := hO.row
      obtain ⟨az, cz, rfl, hrz, -, -⟩ := hI.row
      rw [HK.out] at h1
      exact ⟨hB, en, aq, _, cq, az, _, cz, by rw [h1], fun _ => ⟨rfl, by rw [thC_len, Hn.out], by rw [thE_len, Hm.out], h2, hrq, hrz⟩⟩)
  clear hT
  obtain ⟨hB5, eq, aq, nq, cq, az, nz, cz, rfl, hQ⟩ := HQ.out
  have HQ2 := hide_ hQ
  go_upto_region 5 with fail
  obtain ⟨w6, hw6⟩ : ∃ wx, (w5.alloc (.cells #[.bool eq, .slice aq nq cq, .slice az nz cz] 25)).alloc (.cells #[.int .i64 K.1, .int .i64 K.2] 31) = wx := ⟨_, rfl⟩
  have hB6 : Below w5.heap.size w5 w6 := by rw [← hw6]; exact below2 _ _ _
  obtain ⟨kq, kf⟩ := blk2 w5 #[.bool eq, .slice aq nq cq, .slice az nz cz] #[.int .i64 K.1, .int .i64 K.2] 25 31
  rw [hw6] at kq kf
  have hB46 := below_to hB5 hB6
  have HP6 := hide_ (HP4.out.later hB46)
  have HQ6 := hide_ kq
  have HF6 := hide_ kf
  have HB6 := hide_ (below_to HB4.out hB46)
  have HB56 := hide_ hB6
  try rw [hw6]
  clear hw6 kq kf hB6 hB46 hB5 hQ HQ HTh4 HP4 HB4 p0 p1 p2
  obtain ⟨b8, hb8⟩ : ∃ b8, w5.heap.size = b8 := ⟨_, rfl⟩
  rw [hb8] at HQ6 HF6
  try rw [hb8]
  clear hb8
  have p0 := HP6.out.cell 0; have p1 := HP6.out.cell 1; have p2 := HP6.out.cell 2
  have f0 := HF6.out.cell 0
  simp at p0 p1 p2 f0
  obtain ⟨cn, hcn⟩ : ∃ cn, decide (K.1 ≠ 0 ∨ m = 0) = cn := ⟨_, rfl⟩
  have Hcn := hide_ hcn
  clear hcn
  go_cut [31] from 23 to 31 (fun x31 wc => x31 = .bool cn ∧ w6 = wc)
  case first =>
    by_cases h1 : K.1 = 0
    · have g1 : (K.1 != 0) = false := by simp [h1]
      have g1' : (K.1 == 0) = true := by simp [h1]
      by_cases h2 : m = 0
      · have g2 : ((m : Int) == 0) = true := by simp [h2]
        have e1 : true = cn := by rw [← Hcn.out]; exact (decide_eq_true (.inr h2)).symm
        subst e1
        clear h1 h2
        go_wp2_with fail
        go_meet
        case rel => exact ⟨rfl, rfl⟩
      · have g2 : ((m : Int) == 0) = false := by simp [h2]
        have e1 : false = cn := by rw [← Hcn.out]; exact (decide_eq_false (fun h => h.elim (fun h => h h1) h2)).symm
        subst e1
        clear h1 h2
        go_wp2_with fail
        go_meet
        case rel => exact ⟨rfl, rfl⟩
    · have g1 : (K.1 != 0) = true := by simp [h1]
      have g1' : (K.1 == 0) = false := by simp [h1]
      have e1 : true = cn := by rw [← Hcn.out]; exact (decide_eq_true (.inl h1)).symm
      subst e1
      clear h1
      go_wp2_with fail
      go_meet
      case rel => exact ⟨rfl, rfl⟩
  case rest =>
  obtain ⟨rfl, rfl⟩ := hcut
  cases cn
  · have hcn := of_decide_eq_false Hcn.out
    have hK0 : K.1 = 0 := by
      cases Decidable.em (K.1 = 0) with
      | inl h => exact h
      | inr h => exact absurd (.inl h) hcn
    have hm0 : 0 < m := by
      cases Nat.eq_zero_or_pos m with
      | inl h => exact absurd (.inr h) hcn
      | inr h => exact h
    obtain ⟨rfl, rfl, rfl, hCk, hrq, hrz⟩ := HQ2.out hK0
    have HCk := hide_ hCk
    have HRq := hide_ (GRow.later (l := thC C) hrq HB56.out)
    have HRz := hide_ (hrz.later HB56.out)
    clear hcn hK0 hCk hrq hrz HQ2 f0
    have hrr := restP_in (n := t) (m := (nz : Int)) (by omega)
    obtain ⟨r, hr3⟩ := Int.eq_ofNat_of_zero_le hrr.1
    have HRe := hide_ (rest18_any t (nz : Int) w6 (by omega) (by omega))
    rw [hr3] at HRe hrr
    have hrm : r < nz := by omega
    have hrI : (r : Int) < (nz : Int) := by omega
    have q1 := HQ6.out.cell 1; have q2 := HQ6.out.cell 2
    simp at q1 q2
    clear hrr hr3
    go_wp2_with fail
    refine HRe.out.mono ?_
    rintro e w7 ⟨rfl, rfl⟩
    clear HRe
    have hent := HCk.out.ent r (by rw [Hm.out]; exact hrm)
    obtain ⟨y, hy⟩ := Int.eq_ofNat_of_zero_le hent.1
    have hyn : y < nq := by rw [← Hn.out]; omega
    obtain ⟨be, oe, hae, hbeL, hce⟩ := (HPg.out.later HB6.out).he.open (by rw [Hm.out]; omega)
    subst hae
    have cy := hce r (by rw [Hm.out]; exact hrm)
    rw [hy] at cy
    have HS10 : Hid (∀ w', Below w6.heap.size w6 w' → w'.cell? ⟨b7, 0, none⟩ = some (.bool eq) ∧ w'.cell? ⟨b7, 1, none⟩ = some (.slice a0 nq c0) ∧ w'.cell? ⟨b7, 2, none⟩ = some (.slice (some ⟨be, oe, none⟩) nz d0) ∧ w'.cell? ⟨be, oe + r, none⟩ = some (.int .i64 (y : Int))) := hide_ (fun w' hB => by
      have h1 := (HP6.out.later hB).cell 0; have h2 := (HP6.out.later hB).cell 1; have h3 := (HP6.out.later hB).cell 2
      simp at h1 h2 h3
      exact ⟨h1, h2, h3, (hB.cell (p := ⟨be, oe + r, none⟩) hbeL).trans cy⟩)
    have HWa := hide_ (walk_any eq a0 (some ⟨be, oe, none⟩) ap c0 d0 cp nq nz np C ps (y : Int) w6.drew Hn.out Hnp.out (hide_ HCk.out.wkok) (hide_ (HPg.out.later (below_to HB6.out ((Below.refl w6.heap.size w6).drew))).hr) (hide_ (hr.out.later (below_to HB6.out ((Below.refl w6.heap.size w6).drew)))))
    obtain ⟨A, hA⟩ : ∃ A, wkF C ps 2000 (y : Int) 0 [] = A := ⟨_, rfl⟩
    rw [hA] at HWa
    obtain ⟨Bq, hBq⟩ : ∃ Bq, wkF (thC C) ps 2000 (endP C y : Int) 0 [] = Bq := ⟨_, rfl⟩
    have HSim : Hid (∃ r', Bq = A ++ r') := hide_ (by
      have h1 := sim_walk HCk.out ps 2000 2000 (y : Int) (endP C y : Int) 0 [] (Nat.le_refl _) (by
        have h2 := sim_end (chk_jin HCk.out) (a := (y : Int)) (by omega) (by rw [Hn.out]; omega)
        rw [Int.toNat_natCast] at h2
        exact h2)
      rw [hA, hBq] at h1
      exact h1)
    have HBq := hide_ hBq
    have HBl : Hid (Bq.length ≤ 2000) := hide_ (by rw [← hBq]; have := wk_len (thC C) ps 2000 (endP C y : Int) 0 []; simpa using this)
    have Hy := hide_ hy
    have HrL := hide_ hrm
    clear hA hBq hy hent hce hyn hbeL
    go_wp2_with fail
    clear cy p0 p1 p2 q1 q2
    refine wp_region_last 8 (fun w' => w'.cell? ⟨b7, 0, none⟩ = some (.bool eq) ∧ w'.cell? ⟨b7, 1, none⟩ = some (.slice a0 nq c0) ∧ w'.cell? ⟨b7, 2, none⟩ = some (.slice (some ⟨be, oe, none⟩) nz d0) ∧ w'.cell? ⟨be, oe + r, none⟩ = some (.int .i64 (y : Int))) (by kernel_rfl) (HS10.out _ ((Below.refl w6.heap.size w6).drew)) (fun hHeld => ?_)
    refine wpAnyF_take [8] (by kernel_rfl) (i := 0) (v := ?vb1) rfl (by kernel_rfl) (by kernel_rfl) (by kernel_rfl) (fun _ _ _ h => h) (Or.inl ⟨by kernel_rfl, ?hyb1⟩) hHeld ?restb1
    case hyb1 => intro w' hSw; (try dsimp only at hSw); go_simp; try with_reducible rfl
    simp only [Act.put]
    try dsimp only
    refine wpAnyF_take [8] (by kernel_rfl) (i := 1) (v := ?vb2) rfl (by kernel_rfl) (by kernel_rfl) (by kernel_rfl) (fun _ _ _ h => h) (Or.inl ⟨by kernel_rfl, ?hyb2⟩) hHeld ?restb2
    case hyb2 => intro w' hSw; (try dsimp only at hSw); go_simp; try with_reducible rfl
    simp only [Act.put]
    try dsimp only
    refine wpAnyF_take [8] (by kernel_rfl) (i := 2) (v := ?vb3) rfl (by kernel_rfl) (by kernel_rfl) (by kernel_rfl) (fun _ _ _ h => h) (Or.inl ⟨by kernel_rfl, ?hyb3⟩) hHeld ?restb3
    case hyb3 => intro w' hSw; (try dsimp only at hSw); go_simp; try with_reducible rfl
    simp only [Act.put]
    try dsimp only
    refine wpAnyF_take [8] (by kernel_rfl) (i := 3) (v := ?vb4) rfl (by kernel_rfl) (by kernel_rfl) (by kernel_rfl) (fun _ _ _ h => h) (Or.inl ⟨by kernel_rfl, ?hyb4⟩) hHeld ?restb4
    case hyb4 => intro w' hSw; (try dsimp only at hSw); go_simp; try with_reducible rfl
    simp only [Act.put]
    try dsimp only
    refine wpAnyF_take [8] (by kernel_rfl) (i := 4) (v := ?vb5) rfl (by kernel_rfl) (by kernel_rfl) (by kernel_rfl) (fun _ _ _ h => h) (Or.inl ⟨by kernel_rfl, ?hyb5⟩) hHeld ?restb5
    case hyb5 => intro w' hSw; (try dsimp only at hSw); go_simp; try with_reducible rfl
    simp only [Act.put]
    try dsimp only
    refine wpAnyF_take [8] (by kernel_rfl) (i := 5) (v := ?vb6) rfl (by kernel_rfl) (by kernel_rfl) (by kernel_rfl) (fun _ _ _ h => h) (Or.inl ⟨by kernel_rfl, ?hyb6⟩) hHeld ?restb6
    case hyb6 => intro w' hSw; (try dsimp only at hSw); go_simp; try with_reducible rfl
    simp only [Act.put]
    try dsimp only
    refine wpAnyF_take [8] (by kernel_rfl) (i := 6) (v := ?vb7) rfl (by kernel_rfl) (by kernel_rfl) (by kernel_rfl) (fun _ _ _ h => h) (Or.inl ⟨by kernel_rfl, ?hyb7⟩) hHeld ?restb7
    case hyb7 => intro w' hSw; (try dsimp only at hSw); go_simp; try with_reducible rfl
    simp only [Act.put]
    try dsimp only
    refine wpAnyF_ready (rs := [7]) (by kernel_rfl) (by simp) ?_
    refine AllReadyF.cons rfl (fun K hK => ?_) AllReadyF.nil
    go_simp
    refine HWa.out.mono ?_
    rintro e w8 ⟨va, rfl, hOa, hBa⟩
    have HOa := hide_ hOa
    have HBa := hide_ hBa
    clear hOa hBa
    dsimp only
    refine hK.out _ _ (HS10.out _ (below_to ((Below.refl w6.heap.size w6).drew) HBa.out)) (fun hHeld => ?_)
    clear hK K
    refine wpAnyF_ready (rs := [8]) (by kernel_rfl) (by simp) ?_
    refine AllReadyF.last rfl (fun K hK => ?_)
    go_simp
    refine hK.out _ _ ?_
    clear hK K
    refine wpAnyF_done (by kernel_rfl) ?_ _
    clear HS10 HWa
    have hB8 := below_to ((Below.refl w6.heap.size w6).drew) HBa.out
    have HB8 := hide_ hB8
    have HRz8 := hide_ (HRz.out.later hB8)
    obtain ⟨bz, oz, haz, hbzL, hcz⟩ := HRz8.out.open (by rw [thE_len, Hm.out]; omega)
    subst haz
    obtain ⟨z, hz⟩ : ∃ z : Nat, endP C y = z := ⟨_, rfl⟩
    have cz8 := hcz r (by rw [thE_len, Hm.out]; exact HrL.out)
    have hez : (thE C E).getD r 0 = (z : Int) := by
      have h1 : r < E.length := by rw [Hm.out]; exact HrL.out
      have h2 : E.getD r 0 = (y : Int) := Hy.out
      have h3 : E[r]'h1 = (y : Int) := by simpa [List.getD, h1] using h2
      simp [thE, List.getD, h1, h3, hz]
    rw [hez] at cz8
    have HS11 : Hid (∀ w', Below w8.heap.size w8 w' → w'.cell? ⟨b8, 0, none⟩ = some (.bool eq) ∧ w'.cell? ⟨b8, 1, none⟩ = some (.slice aq nq cq) ∧ w'.cell? ⟨b8, 2, none⟩ = some (.slice (some ⟨bz, oz, none⟩) nz cz) ∧ w'.cell? ⟨bz, oz + r, none⟩ = some (.int .i64 (z : Int))) := hide_ (fun w' hB => by
      have h1 := ((HQ6.out.later hB8).later hB).cell 0; have h2 := ((HQ6.out.later hB8).later hB).cell 1; have h3 := ((HQ6.out.later hB8).later hB).cell 2
      simp at h1 h2 h3
      exact ⟨h1, h2, h3, (hB.cell (p := ⟨bz, oz + r, none⟩) hbzL).trans cz8⟩)
    have HWb := hide_ (walk_any eq aq (some ⟨bz, oz, none⟩) ap cq cz cp nq nz np (thC C) ps (z : Int) w8.drew (by rw [thC_len]; exact Hn.out) Hnp.out (hide_ HCk.out.wkok.th) (hide_ (GRow.later (l := thC C) HRq.out (below_to hB8 ((Below.refl w8.heap.size w8).drew)))) (hide_ (hr.out.later (below_to HB6.out (below_to hB8 ((Below.refl w8.heap.size w8).drew))))))
    rw [show wkF (thC C) ps 2000 (z : Int) 0 [] = Bq by rw [← HBq.out, hz]] at HWb
    clear hB8 hcz hbzL hez cz8 hz HRz8
    go_wp2_with fail
    refine wp_region_last 8 (fun w' => w'.cell? ⟨b8, 0, none⟩ = some (.bool eq) ∧ w'.cell? ⟨b8, 1, none⟩ = some (.slice aq nq cq) ∧ w'.cell? ⟨b8, 2, none⟩ = some (.slice (some ⟨bz, oz, none⟩) nz cz) ∧ w'.cell? ⟨bz, oz + r, none⟩ = some (.int .i64 (z : Int))) (by kernel_rfl) (HS11.out _ ((Below.refl w8.heap.size w8).drew)) (fun hHeld => ?_)
    refine wpAnyF_take [8] (by kernel_rfl) (i := 0) (v := ?vc1) rfl (by kernel_rfl) (by kernel_rfl) (by kernel_rfl) (fun _ _ _ h => h) (Or.inl ⟨by kernel_rfl, ?hyc1⟩) hHeld ?restc1
    case hyc1 => intro w' hSw; (try dsimp only at hSw); go_simp; try with_reducible rfl
    simp only [Act.put]
    try dsimp only
    refine wpAnyF_take [8] (by kernel_rfl) (i := 1) (v := ?vc2) rfl (by kernel_rfl) (by kernel_rfl) (by kernel_rfl) (fun _ _ _ h => h) (Or.inl ⟨by kernel_rfl, ?hyc2⟩) hHeld ?restc2
    case hyc2 => intro w' hSw; (try dsimp only at hSw); go_simp; try with_reducible rfl
    simp only [Act.put]
    try dsimp only
    refine wpAnyF_take [8] (by kernel_rfl) (i := 2) (v := ?vc3) rfl (by kernel_rfl) (by kernel_rfl) (by kernel_rfl) (fun _ _ _ h => h) (Or.inl ⟨by kernel_rfl, ?hyc3⟩) hHeld ?restc3
    case hyc3 => intro w' hSw; (try dsimp only at hSw); go_simp; try with_reducible rfl
    simp only [Act.put]
    try dsimp only
    refine wpAnyF_take [8] (by kernel_rfl) (i := 3) (v := ?vc4) rfl (by kernel_rfl) (by kernel_rfl) (by kernel_rfl) (fun _ _ _ h => h) (Or.inl ⟨by kernel_rfl, ?hyc4⟩) hHeld ?restc4
    case hyc4 => intro w' hSw; (try dsimp only at hSw); go_simp; try with_reducible rfl
    simp only [Act.put]
    try dsimp only
    refine wpAnyF_take [8] (by kernel_rfl) (i := 4) (v := ?vc5) rfl (by kernel_rfl) (by kernel_rfl) (by kernel_rfl) (fun _ _ _ h => h) (Or.inl ⟨by kernel_rfl, ?hyc5⟩) hHeld ?restc5
    case hyc5 => intro w' hSw; (try dsimp only at hSw); go_simp; try with_reducible rfl
    simp only [Act.put]
    try dsimp only
    refine wpAnyF_take [8] (by kernel_rfl) (i := 5) (v := ?vc6) rfl (by kernel_rfl) (by kernel_rfl) (by kernel_rfl) (fun _ _ _ h => h) (Or.inl ⟨by kernel_rfl, ?hyc6⟩) hHeld ?restc6
    case hyc6 => intro w' hSw; (try dsimp only at hSw); go_simp; try with_reducible rfl
    simp only [Act.put]
    try dsimp only
    refine wpAnyF_take [8] (by kernel_rfl) (i := 6) (v := ?vc7) rfl (by kernel_rfl) (by kernel_rfl) (by kernel_rfl) (fun _ _ _ h => h) (Or.inl ⟨by kernel_rfl, ?hyc7⟩) hHeld ?restc7
    case hyc7 => intro w' hSw; (try dsimp only at hSw); go_simp; try with_reducible rfl
    simp only [Act.put]
    try dsimp only
    refine wpAnyF_ready (rs := [7]) (by kernel_rfl) (by simp) ?_
    refine AllReadyF.cons rfl (fun K hK => ?_) AllReadyF.nil
    go_simp
    refine HWb.out.mono ?_
    rintro e w9 ⟨vb, rfl, hOb, hBb⟩
    have HOb := hide_ hOb
    have HBb := hide_ hBb
    clear hOb hBb
    dsimp only
    refine hK.out _ _ (HS11.out _ (below_to ((Below.refl w8.heap.size w8).drew) HBb.out)) (fun hHeld => ?_)
    clear hK K
    refine wpAnyF_ready (rs := [8]) (by kernel_rfl) (by simp) ?_
    refine AllReadyF.last rfl (fun K hK => ?_)
    go_simp
    refine hK.out _ _ ?_
    clear hK K
    refine wpAnyF_done (by kernel_rfl) ?_ _
    clear HS11 HWb
    have hB9 := below_to ((Below.refl w8.heap.size w8).drew) HBb.out
    obtain ⟨r', hr'⟩ := HSim.out
    obtain ⟨aa, ca, hva, hcaL, -, hra⟩ := (HOa.out.later hB9).row
    obtain ⟨ab, cb, hvb, hcbL, -, hrb⟩ := HOb.out.row
    subst hva hvb
    obtain ⟨la, hla⟩ : ∃ la, A.length = la := ⟨_, rfl⟩
    obtain ⟨lb, hlb⟩ : ∃ lb, Bq.length = lb := ⟨_, rfl⟩
    have hlab : la ≤ lb := by rw [← hla, ← hlb, hr', List.length_append]; omega
    have Hra := hide_ hra
    have Hrb := hide_ hrb
    have HBw := hide_ (below_to HB6.out (below_to HB8.out hB9))
    have Hla := hide_ hla
    have Hlb := hide_ hlb
    have HSe : Hid (∀ i, i < la → inA Bq i = inA A i) := hide_ (fun i hi => by
      rw [hr']
      simp [inA, List.getD, List.getElem?_append_left (show i < A.length by omega)])
    rw [hla, hlb]
    have hmi : ∀ (ts : Array TypeId) (t : TypeId) (wx : World), (Builtin.min_ ts t #[.int .i64 (la : Int), .int .i64 (lb : Int)]).run Tryz.prog wx = .ok (.int .i64 (la : Int)) wx := fun ts t wx => by
      rw [run_min_int2]
      congr 2
      split <;> omega
    have hlb9 : lb ≤ 2000 := by rw [← hlb]; exact HBl.out
    clear hB9 hr' hra hrb hla hlb hcaL hcbL HOa HOb HB8 HSim
    go_wp2_with fail
    go_loopw [13] (fun x13 wr => ∃ (i : Nat), i ≤ la ∧ x13 = .int .i64 (i : Int) ∧ Hid (IRow wr aa A) ∧ Hid (IRow wr ab Bq) ∧ Hid (Below w.heap.size w wr)) (fun x13 _ => la - (intOf x13).toNat)
    case atStart => exact ⟨0, by omega, rfl, Hra, Hrb, HBw⟩
    case round =>
      clear Hra Hrb HBw
      obtain ⟨i, hi, rfl, Hra, Hrb, HBr⟩ := hrel
      generalize wr = wz at *
      by_cases hlt : i < la
      · have hltI : (i : Int) < (la : Int) := by omega
        have hltJ : (i : Int) < (lb : Int) := by omega
        obtain ⟨ba, oa, hea, -⟩ := GRow.open Hra.out (by rw [Hla.out]; omega)
        obtain ⟨bb, ob, heb, -⟩ := GRow.open Hrb.out (by rw [Hlb.out]; omega)
        subst hea heb
        obtain ⟨x, hx⟩ : ∃ x, inA A i = x := ⟨_, rfl⟩
        obtain ⟨i0, i1, i2, i3⟩ := IRow.at Hra.out (getI (l := A) (i := i) (by rw [Hla.out]; exact hlt))
        obtain ⟨j0, j1, j2, j3⟩ := IRow.at Hrb.out (getI (l := Bq) (i := i) (by rw [Hlb.out]; omega))
        rw [HSe.out i hlt] at j0 j1 j2 j3
        rw [hx] at i0 i1 i2 i3 j0 j1 j2 j3
        have Hz : Hid (∀ q, IRow (wz.drewN q) (some ⟨ba, oa, none⟩) A ∧ IRow (wz.drewN q) (some ⟨bb, ob, none⟩) Bq ∧ Below w.heap.size w (wz.drewN q)) := hide_ (fun q => ⟨Hra.out, Hrb.out, below_drewN HBr.out q⟩)
        clear hx Hra Hrb HBr
        go_wp2_with fail
        go_quiet (fail)
        go_wp2_with fail
        go_roundw
        case rel => exact ⟨i + 1, by omega, by go_num, hide_ (Hz.out _).1, hide_ (Hz.out _).2.1, hide_ (Hz.out _).2.2⟩
        case measure => simp [intOf]; omega
      · have ei : i = la := by omega
        subst ei
        have hge : (i : Int) ≤ (lb : Int) := by omega
        go_wp2_with fail
        go_ret
        exact ⟨by simp [hlab], HBr.out⟩
  · have HV6 := hide_ (HVe.out w6.drew (below_to HB6.out ((Below.refl w6.heap.size w6).drew)))
    have HS6 : Hid (∀ w', Below w6.heap.size w6 w' → w'.cell? ⟨b7, 0, none⟩ = some (.bool en) ∧ w'.cell? ⟨b7, 1, none⟩ = some (.slice a0 n c0) ∧ w'.cell? ⟨b7, 2, none⟩ = some (.slice b0 m d0) ∧ w'.cell? ⟨b8 + 1, 0, none⟩ = some (.int .i64 K.1) ∧ w'.cell? ⟨b8 + 1, 1, none⟩ = some (.int .i64 K.2)) := hide_ (fun w' hB => by
      have h1 := (HP6.out.later hB).cell 0; have h2 := (HP6.out.later hB).cell 1; have h3 := (HP6.out.later hB).cell 2
      have h4 := (HF6.out.later hB).cell 0; have h5 := (HF6.out.later hB).cell 1
      simp at h1 h2 h3 h4 h5
      exact ⟨h1, h2, h3, h4, h5⟩)
    clear p0 p1 p2 f0
    go_wp2_with fail
    refine wp_region_last 4 (fun w' => w'.cell? ⟨b7, 0, none⟩ = some (.bool en) ∧ w'.cell? ⟨b7, 1, none⟩ = some (.slice a0 n c0) ∧ w'.cell? ⟨b7, 2, none⟩ = some (.slice b0 m d0) ∧ w'.cell? ⟨b8 + 1, 0, none⟩ = some (.int .i64 K.1) ∧ w'.cell? ⟨b8 + 1, 1, none⟩ = some (.int .i64 K.2)) (by kernel_rfl) (HS6.out _ ((Below.refl w6.heap.size w6).drew)) (fun hHeld => ?_)
    refine wpAnyF_take [4] (by kernel_rfl) (i := 0) (v := ?va1) rfl (by kernel_rfl) (by kernel_rfl) (by kernel_rfl) (fun _ _ _ h => h) (Or.inl ⟨by kernel_rfl, ?hya1⟩) hHeld ?resta1
    case hya1 => intro w' hSw; (try dsimp only at hSw); go_simp; try with_reducible rfl
    simp only [Act.put]
    try dsimp only
    refine wpAnyF_take [4] (by kernel_rfl) (i := 2) (v := ?va2) rfl (by kernel_rfl) (by kernel_rfl) (by kernel_rfl) (fun _ _ _ h => h) (Or.inl ⟨by kernel_rfl, ?hya2⟩) hHeld ?resta2
    case hya2 => intro w' hSw; (try dsimp only at hSw); go_simp; try with_reducible rfl
    simp only [Act.put]
    try dsimp only
    refine wpAnyF_ready (rs := [1]) (by kernel_rfl) (by simp) ?_
    refine AllReadyF.cons rfl (fun K hK => ?_) AllReadyF.nil
    go_simp
    refine HV6.out.mono ?_
    rintro e w7 ⟨rfl, HB7⟩
    dsimp only
    refine hK.out _ _ (HS6.out _ (below_to ((Below.refl w6.heap.size w6).drew) HB7.out)) (fun hHeld => ?_)
    clear hK K
    refine wpAnyF_take [4] (by kernel_rfl) (i := 3) (v := ?va3) rfl (by kernel_rfl) (by kernel_rfl) (by kernel_rfl) (fun _ _ _ h => h) (Or.inl ⟨by kernel_rfl, ?hya3⟩) hHeld ?resta3
    case hya3 => intro w' hSw; (try dsimp only at hSw); go_simp; try with_reducible rfl
    simp only [Act.put]
    try dsimp only
    refine wpAnyF_ready (rs := [4]) (by kernel_rfl) (by simp) ?_
    refine AllReadyF.last rfl (fun K hK => ?_)
    go_simp
    refine hK.out _ _ ?_
    clear hK K
    refine wpAnyF_done (by kernel_rfl) ?_ _
    go_wp2_with fail
    go_ret
    exact ⟨by simp, below_to HB6.out (below_to ((Below.refl w6.heap.size w6).drew) HB7.out)⟩
end Go.Proofs.YtimopjkeclppmaaGreat
