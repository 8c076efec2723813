import Derived.Test.YtlbgdgobhiokpaaDoorPart15
import Derived.Test.YtlbgdgobhiokpaaDoorPart01
import Derived.ProofKit
import Derived.OpenShut
import Derived.ShutString
import Derived.ChangeOld
import Derived.Deep.Slices
import Derived.Test.YtlbgdgobhiokpaaDoorPart13
import Derived.Test.YtlbgdgobhiokpaaDoorRows
import Derived.Test.YtlbgdgobhiokpaaDoorPart03
import Derived.WalkKit
import Derived.Deep.DeepHandedRow
import Derived.Lib.LaidTab
import Derived.Stop.LaidErr

/- ValueOrder: the walk. -/
namespace Go.Proofs.YtlbgdgobhiokpaaDoor
open Go.RowKit
set_option linter.unusedVariables false

theorem madeNat {M : List Nd} (h : MadeOk M) : NatN M := fun x hx => ⟨h.pos x hx, by
  have h1 := (right_iff x).1 ((chk_enough M 1 0 h.ok).2.2 x hx)
  have h2 := h1.2.1
  unfold mostN at h2
  split at h2 <;> (try split at h2) <;> (try split at h2) <;> omega⟩
def KB (Kl : List Int) : Prop := ∀ j, 0 ≤ Kl.getD j 0 ∧ Kl.getD j 0 ≤ 1048576
theorem KB.begin (n : Nat) : KB (List.replicate n 0) := fun j => by
  rw [List.getD_eq_getElem?_getD, List.getElem?_replicate]
  split <;> simp
theorem KB.set {Kl : List Int} (h : KB Kl) {p : Nat} (hp : p < Kl.length) {x : Nat} (hx : x ≤ 1048576) : KB (Kl.set p x) := fun j => by
  rw [getD_setI _ _ _ _ hp]
  split
  · omega
  · exact h j
set_option maxRecDepth 100000 in
set_option maxHeartbeats 16000000 in
theorem order_any (a ap : Option Addr) (len cap lenp capp : Nat) (raw : List Nd) (picks : List Int) (w : World) (hl : raw.length = len) (hm : len ≤ 9223372036854775807) (hr : Hid (NRaw w a raw)) (hf : Hid (∀ x ∈ raw, Fits x)) (hpl : Hid (picks.length = lenp)) (hpm : lenp ≤ 9223372036854775807) (hp : Hid (Row .i64 w ap picks)) (hpi : Hid (∀ x ∈ picks, InR x)) (ht : Hid (Tab w.heap.size w)) :
    Calls Tryd.prog 6 #[.slice a len cap, .slice ap lenp capp] w fun e w' => e = .returned (.bool true) ∧ Below w.heap.size w w' := by
  go_enter Tryd.func6, Tryd.ntmps6
  go_wp2_with fail
  refine (awake_any w ht).mono ?_; rintro e w1 ⟨rfl, hB1⟩
  have hr1 : Hid (NRaw w1 a raw) := hr.out.later hB1
  go_wp2_with fail
  refine (made_any a len cap raw w1 hl hm hr1 hf).mono ?_; rintro e w2 ⟨v, M, rfl, HO2, HM, hB2⟩
  have HB2 : Hid (Below w.heap.size w w2) := hB1.trans (hB2.mono hB1.size)
  obtain ⟨av, cv, rfl, HN, hc1, hc2, -⟩ := own_nrow HO2.out
  have HN2 : Hid (NRow w2 av M) := HN
  have hok := HM.out.ok
  have hlen := HM.out.len
  have hne := ok_pos hok
  obtain ⟨n, hn⟩ : ∃ n, M.length = n := ⟨_, rfl⟩
  rw [hn] at hc1 hlen hne ⊢
  have HOK : Hid ((chk 1 0 M).1 = 0) := hok
  have HLn : Hid (M.length = n) := hn
  have HNat : Hid (NatN M) := madeNat HM.out
  have HP2 : Hid (Row .i64 w2 ap picks) := hp.out.later HB2.out
  clear hr1 hr hf hB1 hB2 HO2 HN ht hok hn HM hp
  have hmk := run_make_row' (P := Tryd.prog) 43 3 (.int .i64 0) 8 Tryd.underlying43 (by kernel_rfl) rfl .i64 .i64 n (by omega) (by omega)
  obtain ⟨w4, hw4⟩ : ∃ w4, w4 = (w2.alloc (.cells (madeCells #[.int .i64 0] n) 3)).alloc (.cells (madeCells #[.int .i64 0] n) 3) := ⟨_, rfl⟩
  have HPm : Hid (PMem w2 w4 w2.heap.size (w2.heap.size + 1) (List.replicate n 0) (List.replicate n 0)) := by rw [hw4]; exact PMem.begin w2 n
  go_upto_region 6 with fail
  rw [← hw4]
  clear hw4
  obtain ⟨gp, hgp⟩ : ∃ gp, w2.heap.size = gp := ⟨_, rfl⟩
  obtain ⟨gq, hgq⟩ : ∃ gq, gp + 1 = gq := ⟨_, rfl⟩
  rw [hgp, hgq] at HPm ⊢
  clear hgp hgq
  go_wp2_with fail
  go_loopw [8] (fun xi wr => ∃ (i : Nat) (Pl Kl : List Int), i ≤ n ∧ xi = .int .i64 i ∧ Hid (PKs M Pl Kl i 0) ∧ Hid (PMem w2 wr gp gq Pl Kl) ∧ Hid (KB Kl)) (fun xi _ => n - (intOf xi).toNat)
  case atStart => exact ⟨0, _, _, Nat.zero_le _, rfl, PKs.begin M n HLn.out, HPm, KB.begin n⟩
  case round =>
    clear HPm
    obtain ⟨i, Pl, Kl, hi, rfl, HPK, HPm, HKB⟩ := hrel
    by_cases hlt : i < n
    · have hlt' : (i : Int) < n := by omega
      have hiM : i < M.length := by rw [HLn.out]; exact hlt
      obtain ⟨c, hc⟩ : ∃ c, kN (M.getD i nil0) = c := ⟨_, rfl⟩
      have HC : Hid (kN (M.getD i nil0) = c) := hc
      have HC2 : Hid ((M.getD i nil0).2.2 = (c : Int)) := by show _ = _; rw [← kN_cast HOK.out hiM, hc]
      have hcb : c ≤ 1048576 := by
        have h1 := chk_at M 1 0 i HOK.out hiM
        rw [drop_at M i hiM] at h1
        have h2 := h1.2.1
        rw [HC2.out] at h2
        omega
      clear hc
      go_wp2_with fail
      go_loopw [9, 10] (fun xp xk wr => ∃ (k P : Nat) (Pl Kl : List Int), k ≤ c ∧ xk = .int .i64 k ∧ xp = .int .i64 P ∧ Hid (kp M i k = P) ∧ Hid (PKs M Pl Kl i k) ∧ Hid (PMem w2 wr gp gq Pl Kl) ∧ Hid (KB Kl)) (fun _ xk _ => c - (intOf xk).toNat)
      case atStart => exact ⟨0, i + 1, Pl, Kl, Nat.zero_le _, rfl, by go_num, kp_zero i, HPK, HPm, HKB⟩
      case round =>
        clear HPK HPm HKB
        obtain ⟨k, P, Pl, Kl, hk, rfl, rfl, HPi, HPK, HPm, HKB⟩ := hrel
        have HNr : Hid (NRow wr av M) := HN2.out.later HPm.out.bel
        obtain ⟨bv, ov, rfl, hbv, hcv⟩ := HNr.out.open (by omega)
        obtain ⟨-, -, x2⟩ := hcv i hiM
        rw [HC2.out] at x2
        clear hcv
        by_cases hkc : k < c
        · have hkc' : (k : Int) < c := by omega
          have hPn : P < n := by rw [← HPi.out, ← HLn.out]; exact kp_in HOK.out hiM (by rw [HC.out]; exact hkc)
          have hPn' : (P : Int) < n := by omega
          have p1 := HPm.out.pc (j := P) (by rw [HPK.out.pl, HLn.out]; exact hPn)
          have z1 := HPm.out.p.frozen P
          obtain ⟨wx, hwx⟩ : ∃ wx, wx = wr.setCell ⟨gp, P, none⟩ (.int .i64 (i : Int)) := ⟨_, rfl⟩
          have HPx : Hid (PMem w2 wx gp gq (Pl.set P i) Kl) := by rw [hwx]; exact HPm.out.setp P i
          have p2 := HPx.out.qc (j := P) (by rw [HPK.out.kl, HLn.out]; exact hPn)
          have z2 := HPx.out.q.frozen P
          obtain ⟨wy, hwy⟩ : ∃ wy, wy = wx.setCell ⟨gq, P, none⟩ (.int .i64 (k : Int)) := ⟨_, rfl⟩
          have HPy : Hid (PMem w2 wy gp gq (Pl.set P i) (Kl.set P k)) := by rw [hwy]; exact HPx.out.setq P k
          have HKy : Hid (PKs M (Pl.set P i) (Kl.set P k) i (k + 1)) := by rw [← HPi.out]; exact HPK.out.step HOK.out hiM (by rw [HC.out]; exact hkc)
          have HKB2 : Hid (KB (Kl.set P k)) := HKB.out.set (by rw [HPK.out.kl, HLn.out]; exact hPn) (by omega)
          have HNy : Hid (NRow wy (some ⟨bv, ov, none⟩) M) := HN2.out.later HPy.out.bel
          clear HPK HPm HNr
          go_upto_region 14 with fail
          rw [← hwx]
          clear hwx p1 z1 x2
          go_upto_region 15 with fail
          rw [← hwy]
          clear hwy p2 z2 HPx
          go_wp2_with fail
          refine (nextD_any _ n cv (P : Int) M wy HLn.out (by omega) HNy HNat).mono ?_; rintro e w5 ⟨rfl, hB5⟩
          rw [next_is HOK.out (by rw [HLn.out]; exact hPn)]
          unfold pairv
          have HP5 : Hid (PMem w2 w5 gp gq (Pl.set P i) (Kl.set P k)) := HPy.out.later hB5
          have HE5 : Hid (kp M i (k + 1) = endOf M P) := by show _ = _; rw [kp_succ, HPi.out]
          clear HPy hB5 HNy
          go_wp2
          go_roundw
          case rel => exact ⟨k + 1, endOf M P, _, _, by omega, by go_num, rfl, HE5, HKy, HP5, HKB2⟩
          case measure => simp [intOf]; omega
        · obtain rfl : k = c := by omega
          have hnl : ¬ ((k : Int) < (k : Int)) := by omega
          have HKn : Hid (PKs M Pl Kl (i + 1) 0) := by
            have h := HPK.out
            rw [← HC.out] at h
            exact h.next
          go_wp2
          go_roundw
          case rel => exact ⟨i + 1, Pl, Kl, by omega, by go_num, HKn, HPm, HKB⟩
          case measure => simp [intOf]; omega
    · obtain rfl : i = n := by omega
      have hnl : ¬ ((i : Int) < (i : Int)) := by omega
      generalize wr = wq at *
      have HPA : Hid (PKs M Pl Kl M.length 0) := by rw [HLn.out]; exact HPK.out
      go_wp2_with fail
      refine (newA_any wq).mono ?_; rintro e wA1 ⟨rfl, HAn, hBA⟩
      have HB : Hid (Below w.heap.size w wq) := HB2.out.trans (HPm.out.bel.mono HB2.out.size)
      have HNr : Hid (NRow wq av M) := HN2.out.later HPm.out.bel
      have HPr : Hid (Row .i64 wq ap picks) := HP2.out.later HPm.out.bel
      obtain ⟨w6, hw6⟩ : ∃ w6, w6 = (wA1.alloc (.cells (madeCells #[.int .i64 0] i) 3)).alloc (.cells #[.int .i64 0] 3) := ⟨_, rfl⟩
      have HOM := OMem.begin (n := i) HAn.out hBA
      rw [← hw6] at HOM
      have hsz : (wA1.alloc (.cells (madeCells #[.int .i64 0] i) 3)).heap.size = wA1.heap.size + 1 := by simp
      rw [hsz] at HOM
      have HOM0 : Hid _ := HOM
      clear HOM hsz HAn hBA HN2 HP2 HPK HB2
      go_upto_region 21 with fail
      rw [← hw6]
      clear hw6 hmk
      obtain ⟨B, hBd⟩ : ∃ B, wq.heap.size = B := ⟨_, rfl⟩
      obtain ⟨gn, hgn⟩ : ∃ gn, wA1.heap.size = gn := ⟨_, rfl⟩
      obtain ⟨B2, hB2⟩ : ∃ B2, gn + 1 = B2 := ⟨_, rfl⟩
      rw [hBd, hgn, hB2] at HOM0
      rw [hBd, hgn, hB2]
      clear hBd hgn hB2 hnl
      go_wp2_with fail
      go_loopw [13, 14] (fun xo xn wr => ∃ (vo vn vs vm : Value) (ord O : List Nat) (N : List Nd) (S G : Stk) (Nl : List Int) (m : Nat), vo = xo ∧ xn = .int .i64 m ∧ m ≤ i ∧ Hid (ord.length = m) ∧ Hid (Ords M ord O N S G) ∧ Hid (OMem B B2 B gn wq wr vo vn vs vm O N S G Nl) ∧ Hid (Nums M ord Nl)) (fun _ xn _ => i - (intOf xn).toNat)
      case atStart => exact ⟨_, _, _, _, [], [0], [], [], [], _, 0, rfl, rfl, Nat.zero_le _, rfl, Ords.begin HOK.out, HOM0, Nums.begin M i HLn.out⟩
      case round =>
        clear HOM0
        obtain ⟨vo, vn, vs, vm, ord, O, N, S, G, Nl, m, rfl, rfl, hmi, HOl, HOr, HOM, HNu⟩ := hrel
        have hBw : Below wq.heap.size wq wr := by rw [HOM.out.g4]; exact HOM.out.bel
        have hOL := HOr.out.olen
        rw [HLn.out] at hOL
        by_cases hmlt : m < i
        · have hmlt' : (m : Int) < i := by omega
          have hO0 : 0 < O.length := HOr.out.some HOK.out (by rw [HOl.out, HLn.out]; exact hmlt)
          obtain ⟨go, co, ys, rfl, -, hco, -, -, -, -⟩ := own_blk HOM.out.op hO0
          have HPr2 : Hid (Row .i64 wr ap picks) := HPr.out.later hBw
          go_upto_if 80 with fail
          go_cut [15] from 71 to 92 (fun x15 wc => ∃ kk : Nat, x15 = .int .i64 kk ∧ kk < O.length ∧ wr = wc)
          case first =>
            by_cases hmp : (m : Int) < (lenp : Int)
            · have hmp' : m < picks.length := by rw [hpl.out]; omega
              obtain ⟨bp, op, rfl, hbp, hcp⟩ := HPr2.out.open (by omega)
              have p0 := hcp m hmp'
              have hin : InR (picks.getD m 0) := hpi.out _ (by rw [List.getD_eq_getElem?_getD, List.getElem?_eq_getElem hmp']; exact List.getElem_mem hmp')
              unfold InR at hin
              clear hcp hmp'
              generalize picks.getD m 0 = pk at *
              go_wp2_with fail
              refine (rest_any pk 0 ((O.length : Int) - 1) _ (by decide) (by omega) (by omega) hin).mono ?_; rintro e w2' ⟨r, rfl, hr1, hr2, rfl⟩
              obtain ⟨r, rfl⟩ := Int.eq_ofNat_of_zero_le hr1
              go_wp2
              go_meet
              case rel => exact ⟨r, rfl, by omega, rfl⟩
            · go_wp2
              go_meet
              case rel => exact ⟨0, rfl, hO0, rfl⟩
          case rest =>
            obtain ⟨kk, rfl, hkk, rfl⟩ := hcut
            have hkk' : (kk : Int) < O.length := by omega
            have HOd : wr.drew.ownsRow B2 3 1 (.slice (some ⟨go, 0, none⟩) O.length co) O.length (cellsL .i64 (natL O)) := ownS_upd HOM.out.op (Upd.of_below (S := fun _ => False) ((Below.refl _ _).drew)) (fun _ _ h => h)
            obtain ⟨g', c', e1, h1, h2, h3, x', v1, w4', v2, w5, hs, r1, r2, o5, b5⟩ := run_strike HOd hkk (by omega)
            have e2 : go = g' ∧ co = c' := by simpa using e1
            obtain ⟨rfl, rfl⟩ := e2
            have hc0 : wr.cell? ⟨go, kk, none⟩ = some (.int .i64 ((O.getD kk 0 : Nat) : Int)) := h3
            obtain ⟨ii, hii⟩ : ∃ ii, O.getD kk 0 = ii := ⟨_, rfl⟩
            have HII : Hid (O.getD kk 0 = ii) := hii
            rw [hii] at hc0
            have hB5 : Below wr.heap.size wr w5 := (Below.refl _ _).drew.trans b5
            have HOM5 : Hid (OMem B B2 B gn wq w5 v2 vn vs vm (O.take kk ++ O.drop (kk + 1)) N S G Nl) := HOM.out.strike hB5 o5
            have R1 : Hid _ := r1
            have R2 : Hid _ := r2
            have hw1 : IntKind.i64.wrap ((kk : Int) + 1) = (kk : Int) + 1 := i64w _ (by omega)
            have hh := cut_h' go O.length co kk (kk : Int) rfl (by omega)
            clear e1 h3 hii r1 r2 b5 o5 hB5 HPr2 HOd h2
            go_wp2_with fail
            go_region_law (first
              | (refine step_append_run (v := .slice none 0 0) (u := .slice (some ⟨go, 0, none⟩) kk co) (by kernel_rfl) (.const (.slice none 0 0)) (.tmp 95) 43 43 (by kernel_rfl) (by kernel_rfl) (by kernel_rfl) R1.out ?_)
              | (refine step_append_run (v := v1) (u := .slice (some ⟨go, x', none⟩) (O.length - (kk + 1)) (co - (kk + 1))) (by kernel_rfl) (.tmp 96) (.tmp 100) 43 43 (by kernel_rfl) (by kernel_rfl) (by kernel_rfl) R2.out ?_))
            clear R1 R2 hh hs hw1 hc0 h1 hco
            have hiO : ii ∈ O := mem_at.2 ⟨kk, hkk, HII.out⟩
            obtain ⟨hiM, hio, hcase⟩ := (HOr.out.om ii).1 hiO
            rw [HLn.out] at hiM
            have HB5 : Below wq.heap.size wq w5 := by rw [HOM5.out.g4]; exact HOM5.out.bel
            have HPm5 : Hid (PMem w2 w5 gp gq Pl Kl) := HPm.out.later HB5
            have HN5 : Hid (NRow w5 av M) := HNr.out.later HB5
            have hi0 : (0 : Int) ≤ ii := by omega
            have hiM' : (ii : Int) < i := by omega
            have HPll : Hid (Pl.length = i ∧ Kl.length = i) := by show _ ∧ _; rw [HPA.out.pl, HPA.out.kl]; exact ⟨HLn.out, HLn.out⟩
            obtain ⟨kq, hkq⟩ : ∃ kq, Kl.getD ii 0 = kq := ⟨_, rfl⟩
            have q5 : w5.cell? ⟨gq, ii, none⟩ = some (.int .i64 kq) := by rw [← hkq]; exact HPm5.out.qc (by rw [HPll.out.2]; exact hiM)
            have HKQ : Hid (Kl.getD ii 0 = kq) := hkq
            have HCs : Hid (ii = 0 ∨ ∃ p q y, IsKid M ii p q ∧ y < ord.length ∧ ord.getD y 0 = p ∧ Pl.getD ii 0 = (p : Int) ∧ kq = (q : Int) ∧ Nl.getD p 0 = (y : Int)) := by
              rcases hcase with h | ⟨p, q, hp, hK⟩
              · exact .inl h
              · obtain ⟨y, hy, hyp⟩ := mem_at.1 hp
                obtain ⟨h1, h2⟩ := HPA.out.all hK
                refine .inr ⟨p, q, y, hK, hy, hyp, h1, by rw [← hkq, h2], ?_⟩
                rw [← hyp]
                exact HNu.out.2 y hy
            clear hkq hcase hmlt'
            go_upto_if 103 with fail
            go_cut [17] from 102 to 110 (fun x17 wc => ∃ P : Int, x17 = .int .i64 P ∧ Hid ((ii = 0 → P = -1) ∧ (0 < ii → ∃ p q y, IsKid M ii p q ∧ y < ord.length ∧ ord.getD y 0 = p ∧ P = (y : Int) ∧ kq = (q : Int))) ∧ w5 = wc)
            case first =>
              rcases HCs.out with rfl | ⟨p, q, y, hK, hy, hyp, h1, h2, h3⟩
              · have hz : ¬ ((0 : Int) < 0) := by omega
                go_wp2
                go_meet
                case rel => exact ⟨-1, rfl, ⟨fun _ => rfl, fun h => by omega⟩, rfl⟩
              · have hlt := hK.lt
                have hz : (0 : Int) < ii := by omega
                have p5 : w5.cell? ⟨gp, ii, none⟩ = some (.int .i64 (p : Int)) := by rw [← h1]; exact HPm5.out.pc (by rw [HPll.out.1]; exact hiM)
                have hpM : p < i := by omega
                have hpM' : (p : Int) < i := by omega
                have n5 : w5.cell? ⟨gn, p, none⟩ = some (.int .i64 (y : Int)) := by rw [← h3]; exact HOM5.out.nc (by rw [HNu.out.1, HLn.out]; exact hpM)
                have HF : Hid ((ii = 0 → (y : Int) = -1) ∧ (0 < ii → ∃ p q y', IsKid M ii p q ∧ y' < ord.length ∧ ord.getD y' 0 = p ∧ (y : Int) = (y' : Int) ∧ kq = (q : Int))) := ⟨fun h => by omega, fun _ => ⟨p, q, y, hK, hy, hyp, rfl, h2⟩⟩
                clear h1 h2 h3 hK hy hyp
                go_wp2
                go_meet
                case rel => exact ⟨(y : Int), rfl, HF, rfl⟩
            case rest =>
              obtain ⟨P, rfl, HP, rfl⟩ := hcut
              obtain ⟨bv, ov, rfl, hbv, hcv⟩ := HN5.out.open (by rw [HLn.out]; omega)
              obtain ⟨v0, v1, -⟩ := hcv ii (by rw [HLn.out]; exact hiM)
              obtain ⟨nk, hnk⟩ : ∃ nk, nkL Pl ii i = nk := ⟨_, rfl⟩
              have HAdd := HOr.out.add HOK.out hkk HII.out (P := P) (k := kq) (nk := nkL Pl ii M.length) HP.out.1 (fun h => by
                obtain ⟨p, q, y, a1, a2, a3, a4, a5⟩ := HP.out.2 h
                exact ⟨p, q, y, a1, a2, a3, a4, a5⟩) (nkL_nodup _ _ _) (fun j => nkL_mem HPA.out HOK.out ii j)
              rw [HLn.out] at HAdd
              obtain ⟨hE0, HOr2⟩ := HAdd
              have HOr3 : Hid _ := HOr2
              have hkr : InR kq := by
                have := HKB.out ii
                rw [HKQ.out] at this
                unfold InR
                omega
              have HAd : Hid (An B w5.drew B vn vs vm N S G) := HOM5.out.an.drew
              have HNm : Hid (N.length = m) := HOr.out.nl.trans HOl.out
              have hGl := HOr.out.inv.gl
              have hSl := HOr.out.inv.len
              have hNm := HNm.out
              have hol := HOl.out
              have hcon := addG_ok B B P kq (M.getD ii nil0).1 (M.getD ii nil0).2.1 vn vs vm N S G w5.drew HAd (by omega) (by omega) (by omega) hkr hE0 (fun h0 => by
                have h1 := HP.out.2 (by
                  rcases Nat.eq_zero_or_pos ii with h | h
                  · exact absurd (by have h2 := HOr.out.z (by omega); rw [h]; exact mem_at.2 ⟨0, by omega, h2⟩) hio
                  · exact h)
                obtain ⟨p, q, y, a1, a2, a3, a4, a5⟩ := h1
                rw [a4, Int.toNat_natCast]
                exact HOr.out.inv.pos y (by omega))
              rw [hNm] at hcon
              unfold pairv at hcon
              have HCon := hide_ hcon
              obtain ⟨kd0, hkd0⟩ : ∃ x, (M.getD ii nil0).1 = x := ⟨_, rfl⟩
              obtain ⟨nu0, hnu0⟩ : ∃ x, (M.getD ii nil0).2.1 = x := ⟨_, rfl⟩
              rw [hkd0] at v0 HCon HOr3
              rw [hnu0] at v1 HCon HOr3
              have HS5 : Hid (∀ w', Below B wq w' → w'.cell? ⟨gq, ii, none⟩ = some (.int .i64 kq) ∧ w'.cell? ⟨bv, ov + ii * 3, none⟩ = some (.int .i64 kd0) ∧ w'.cell? ⟨bv, ov + ii * 3 + 1, none⟩ = some (.int .u64 nu0)) := fun w' hB => by
                have hB' : Below wq.heap.size wq w' := by rw [HOM5.out.g4]; exact hB
                obtain ⟨b', o', e, _, hc⟩ := (HNr.out.later hB').open (by rw [HLn.out]; omega)
                have e' : bv = b' ∧ ov = o' := by simpa using e
                obtain ⟨rfl, rfl⟩ := e'
                obtain ⟨a1, a2, -⟩ := hc ii (by rw [HLn.out]; exact hiM)
                rw [hkd0] at a1
                rw [hnu0] at a2
                refine ⟨?_, a1, a2⟩
                rw [← HKQ.out]
                exact (HPm.out.later hB').qc (by rw [HPll.out.2]; exact hiM)
              have f5 : w5.cell? ⟨gq, ii, none⟩ = some (.int .i64 kq) ∧ w5.cell? ⟨bv, ov + ii * 3, none⟩ = some (.int .i64 kd0) ∧ w5.cell? ⟨bv, ov + ii * 3 + 1, none⟩ = some (.int .u64 nu0) := ⟨q5, v0, v1⟩
              clear hcon hcv hkd0 hnu0 hE0 HOr2 hnk nk hGl hSl hNm hol q5 v0 v1
              go_wp2_with fail
              go_region_held_law (fun w' => w'.cell? ⟨gq, ii, none⟩ = some (.int .i64 kq) ∧ w'.cell? ⟨bv, ov + ii * 3, none⟩ = some (.int .i64 kd0) ∧ w'.cell? ⟨bv, ov + ii * 3 + 1, none⟩ = some (.int .u64 nu0)) (first | assumption | exact f5)
                ((go_at_call 24; refine HCon.out.mono ?_; rintro e w6 ⟨rfl, vn6, vs6, vm6, HA6, HM6⟩; have f6 := HS5.out w6 ((HOM5.out.bel.drew).trans (HM6.out.upd.below B HOM5.out.base fun k hk => (HOM5.out.an.feet hk).1))))
              have HOM6 := hide_ ((HOM5.out.later ((Below.refl _ _).drew)).added HA6.out HM6.out)
              clear HCon HS5 f5 HAd HPm5 HN5 HA6 HM6
              have e0 : ((m : Int) != (m : Int)) = false := by simp
              have n6 := HOM6.out.nc (j := ii) (by rw [HNu.out.1, HLn.out]; exact hiM)
              have z6 := HOM6.out.num.frozen ii
              obtain ⟨w7, hw7⟩ : ∃ w7, w7 = w6.setCell ⟨gn, ii, none⟩ (.int .i64 (m : Int)) := ⟨_, rfl⟩
              have HOM7 := HOM6.out.put ii (m : Int)
              rw [← hw7] at HOM7
              have HOM8 := hide_ HOM7
              have HNu8 : Hid (Nums M (ord ++ [ii]) (Nl.set ii (m : Int))) := by
                have h := HNu.out.add (by rw [HLn.out]; exact hiM) hio
                rw [HOl.out] at h
                exact h
              go_upto_region 36 with (go_at_call 13; refine (num_any _ _).mono ?_; rintro e w' ⟨rfl, rfl⟩)
              rw [← hw7]
              clear hw7 HOM7 n6 z6 HOM6 f6 e0
              go_wp2_with fail
              obtain ⟨O5, hO5⟩ : ∃ O5, O.take kk ++ O.drop (kk + 1) = O5 := ⟨_, rfl⟩
              have hO5l : O5.length + 1 = O.length := by
                rw [← hO5, List.length_append, List.length_take, List.length_drop]
                omega
              rw [hO5] at HOM8 HOr3
              clear hO5
              go_loopw [13, 20] (fun xo xj wx => ∃ (vo : Value) (j : Nat), vo = xo ∧ xj = .int .i64 j ∧ ii + 1 ≤ j ∧ j ≤ i ∧ Hid (OMem B B2 B gn wq wx vo vn6 vs6 vm6 (O5 ++ nkL Pl ii j) (addN1 N G P kq kd0 nu0) (S ++ [(P, kq)]) (addG1 N G P kq) (Nl.set ii (m : Int)))) (fun _ xj _ => i - (intOf xj).toNat)
              case atStart => exact ⟨_, ii + 1, rfl, by go_num, Nat.le_refl _, by omega, by rw [nkL_begin, List.append_nil]; exact HOM8⟩
              case round =>
                clear HOM8
                obtain ⟨vo, j, rfl, rfl, hj1, hj2, HOM⟩ := hrel
                by_cases hjlt : j < i
                · have hjlt' : (j : Int) < i := by omega
                  have hBj : Below wq.heap.size wq wr := by rw [HOM.out.g4]; exact HOM.out.bel
                  have pj := (HPm.out.later hBj).pc (j := j) (by rw [HPll.out.1]; exact hjlt)
                  clear hBj
                  by_cases heq : Pl.getD j 0 = (ii : Int)
                  · rw [heq] at pj
                    have hnl := nkL_len Pl ii j
                    obtain ⟨g7, cap7, w7', r7, ow7, u7, -⟩ := run_push E43 wr 43 B2 vo _ _ HOM.out.op (j : Int) (by rw [List.length_append]; unfold maxLen; omega) (by rw [List.length_append]; omega) HOM.out.g3
                    have R7 := hide_ r7
                    have HOM9 : Hid (OMem B B2 B gn wq w7' (.slice (some ⟨g7, 0, none⟩) ((O5 ++ nkL Pl ii j).length + 1) cap7) vn6 vs6 vm6 (O5 ++ nkL Pl ii (j + 1)) (addN1 N G P kq kd0 nu0) (S ++ [(P, kq)]) (addG1 N G P kq) (Nl.set ii (m : Int))) := by
                      refine HOM.out.pushed ?_ u7
                      have e : (O5 ++ nkL Pl ii j ++ [j]).length = (O5 ++ nkL Pl ii j).length + 1 := by rw [List.length_append (bs := [j])]; rfl
                      rw [nkL_hit Pl ii j (by omega) heq, ← List.append_assoc, natL_append, e]
                      exact ow7
                    clear r7 ow7 u7 HOM hnl
                    generalize (O5 ++ nkL Pl ii j).length = ol at *
                    go_wp2_with (at_builtin; have _t := R7; refine wpList_append_run rfl (.tmp 157) (.tmp 159) 43 43 rfl rfl rfl R7.out ?_; clear R7)
                    go_roundw
                    case rel => exact ⟨_, j + 1, rfl, by go_num, by omega, by omega, HOM9⟩
                    case measure => simp [intOf]; omega
                  · have hbe : (Pl.getD j 0 == (ii : Int)) = false := by simpa using heq
                    have HOM9 : Hid (OMem B B2 B gn wq wr vo vn6 vs6 vm6 (O5 ++ nkL Pl ii (j + 1)) (addN1 N G P kq kd0 nu0) (S ++ [(P, kq)]) (addG1 N G P kq) (Nl.set ii (m : Int))) := by rw [nkL_not Pl ii j heq]; exact HOM
                    clear HOM
                    generalize Pl.getD j 0 = pv at *
                    go_wp2
                    go_roundw
                    case rel => exact ⟨_, j + 1, rfl, by go_num, by omega, by omega, HOM9⟩
                    case measure => simp [intOf]; omega
                · obtain rfl : j = i := by omega
                  have hnl : ¬ ((j : Int) < (j : Int)) := by omega
                  have hol : Hid ((ord ++ [ii]).length = m + 1) := by show _ = _; rw [List.length_append, HOl.out]; rfl
                  go_wp2
                  go_roundw
                  case rel => exact ⟨_, vn6, vs6, vm6, ord ++ [ii], O5 ++ nkL Pl ii j, _, _, _, _, m + 1, rfl, by go_num, by omega, hol, HOr3, HOM, HNu8⟩
                  case measure => simp [intOf]; omega
        · obtain rfl : m = i := by omega
          have hnl : ¬ ((m : Int) < (m : Int)) := by omega
          obtain ⟨hG, hwB, hNl, hv⟩ := HOr.out.fin HOK.out (by rw [HOl.out, HLn.out])
          subst hG
          have hsum := HOr.out.inv.sum (by rw [hNl, HLn.out]; omega)
          obtain ⟨T, rfl⟩ : ∃ T, m = T + 1 := ⟨m - 1, by omega⟩
          have hNT : N.length = T + 1 := by rw [hNl, HLn.out]
          have hcon := valueA_ok B B T vn vs vm N M S [] (chS N S) wr HOM.out.an (by omega) hNT hwB (by show _ = _; simp at hsum; omega) HOr.out.inv.pos HOr.out.inv.len HOr.out.inv.spots HOr.out.inv.kids hv (by rw [HLn.out]; omega)
          rw [HLn.out] at hcon
          have HCon := hide_ hcon
          clear hcon hsum hNl hv hwB
          go_wp2_with fail
          refine HCon.out.mono ?_; rintro e w6 ⟨v6, rfl, HO6, HB6⟩
          have HO7 := HO6.out
          rw [← HLn.out] at HO7
          obtain ⟨a6, c6, rfl, HN6, -, -, -⟩ := own_nrow HO7
          rw [HLn.out]
          have HN6' : Hid (NRow w6 a6 M) := HN6
          have HNv : Hid (NRow w6 av M) := HNr.out.later (hBw.trans (HB6.out.mono hBw.size))
          have HA6 : Hid (An B w6 B vn vs vm N S []) := HOM.out.an.later HB6.out
          have HB7 : Hid (Below w.heap.size w w6) := HB.out.trans ((hBw.trans (HB6.out.mono hBw.size)).mono HB.out.size)
          have hcnt := fun w' (h : Hid (An B w' B vn vs vm N S [])) => countA_any B B vn vs vm N S [] w' h
          rw [hNT] at hcnt
          have HCn := hide_ hcnt
          clear HCon HO6 HO7 HN6 hBw HB6 hcnt HOM HPr hNT
          go_wp2_with (go_at_call 13; refine (num_any _ _).mono ?_; rintro e w' ⟨rfl, rfl⟩)
          refine (equal_any a6 av (T + 1) (T + 1) c6 cv M M w6 HLn.out HLn.out (by omega) (by omega) HN6' HNv).mono ?_; rintro e w8 ⟨rfl, hB8⟩
          have HA8 : Hid (An B w8 B vn vs vm N S []) := HA6.out.later hB8
          have HB8 : Hid (Below w.heap.size w w8) := HB7.out.trans (hB8.mono HB7.out.size)
          have hdd : decide (M = M) = true := by simp
          rw [hdd]
          clear HA6 HB7 hB8 HN6' HNv
          go_wp2_with fail
          refine (HCn.out w8 HA8).mono ?_; rintro e w9 ⟨rfl, rfl⟩
          go_wp2
          go_ret
          exact ⟨rfl, HB8.out⟩
end Go.Proofs.YtlbgdgobhiokpaaDoor

/-
  What the reading of an argument says of memory, over any program. For a new seat: copy as <Name>Read.lean; put the Name for 'Seat', also in the import.
-/
namespace Go.Proofs.YtlbgdgobhiokpaaDoor
open Go.ChangeShapes Go.WideShapes Go.ChangeAt Go.RowKit
set_option linter.unusedVariables false

variable {H : Type} {enc : TypeId × Value → H} {P : Program} {w : World} {base : Nat} {held : Bool}

/-- A slice of integers that was read, its spare room too. -/
theorem row_read {t e : TypeId} {k : IntKind} (ht : P.underlying t = some (.slice e)) (he : P.underlying e = some (.int k)) (hc : P.cellsOf e = 1) {fuel : Nat} {v : Value} {y : DataW H × List MemPlace}
    (h : DataW.trod enc P w base (fun _ => true) held fuel t [v] = some y) :
    ∃ a n cap l, v = .slice a n cap ∧ n ≤ cap ∧ cap ≤ maxLen ∧ l.length = n ∧ Row k w a l ∧ (a = none → cap = 0) ∧ ∀ x ∈ l, (Lit.int k x).wf = true := by
  rcases open_ints ht he hc h with ⟨hcs, _⟩ | ⟨x, l, c, zs, hcs, _, hl, hm, hz, _, hcell, hwz⟩
  · simp at hcs
    subst hcs
    exact ⟨none, 0, 0, [], rfl, Nat.le_refl _, Nat.zero_le _, rfl, .inl ⟨rfl, rfl⟩, fun _ => rfl, fun x hx => by cases hx⟩
  · simp at hcs
    subst hcs
    have hz' : zs.length = c := by simpa using hz
    refine ⟨some x, l, c, zs.take l, rfl, hl, hm, by simp; omega, .inr ⟨x, rfl, fun i hi => ?_⟩, (fun h => by cases h), fun x hx => hwz x (List.mem_of_mem_take hx)⟩
    have h1 : i < l := by simp at hi; omega
    rw [hcell i (by omega)]
    simp [List.getD, h1]
/-- The same, with what it weighs. -/
theorem row_weigh {t e : TypeId} {k : IntKind} (ht : P.underlying t = some (.slice e)) (he : P.underlying e = some (.int k)) (hc : P.cellsOf e = 1) {fuel : Nat} {v : Value} {y : DataW H × List MemPlace}
    (h : DataW.trod enc P w base (fun _ => true) held fuel t [v] = some y) :
    ∃ a n cap l, v = .slice a n cap ∧ n ≤ cap ∧ cap ≤ maxLen ∧ l.length = n ∧ Row k w a l ∧ (a = none → cap = 0) ∧ (∀ x ∈ l, (Lit.int k x).wf = true) ∧ (cap = 0 ∨ cap * P.bytesOf e ∈ y.1.weights P t) := by
  rcases open_ints ht he hc h with ⟨hcs, _⟩ | ⟨x, l, c, zs, hcs, _, hl, hm, hz, hy, hcell, hwz⟩
  · simp at hcs
    subst hcs
    exact ⟨none, 0, 0, [], rfl, Nat.le_refl _, Nat.zero_le _, rfl, .inl ⟨rfl, rfl⟩, fun _ => rfl, (fun x hx => by cases hx), .inl rfl⟩
  · simp at hcs
    subst hcs
    have hz' : zs.length = c := by simpa using hz
    refine ⟨some x, l, c, zs.take l, rfl, hl, hm, by simp; omega, .inr ⟨x, rfl, fun i hi => ?_⟩, (fun h => by cases h), (fun x hx => hwz x (List.mem_of_mem_take hx)), .inr ?_⟩
    · have h1 : i < l := by simp at hi; omega
      rw [hcell i (by omega)]
      simp [List.getD, h1]
    · subst hy
      simp only [DataW.weights, ht, lits, List.length_map, List.length_take, List.length_drop]
      rw [hz', show min l c + (c - l) = c from by omega]
      exact List.mem_cons_self
/-- A struct's cells, field by field: field number i of a struct whose fields are of one cell each. -/
theorem field_read {t : TypeId} {fs : Array Field} (ht : P.underlying t = some (.struct fs)) {fuel : Nat} {cs : List Value} {y : DataW H × List MemPlace} (h : DataW.trod enc P w base (fun _ => true) held fuel t cs = some y) :
    cs.length = P.cellsOf t ∧ ∃ m, ∀ (i : Nat) (f : Field) (c : Value), fs[i]? = some f → P.cellsOf f.type = 1 → cs[f.offset]? = some c → ∃ z, DataW.trod enc P w base (fun _ => true) held m f.type [c] = some z := by
  obtain ⟨xs, m, _, _, hl, hlen, hf⟩ := DataW.trod_struct ht h
  refine ⟨hl, m, fun i f c hfi hc1 hco => ?_⟩
  have hi : i < xs.length := by
    rw [hlen]
    exact (Array.getElem?_eq_some_iff.1 hfi).1
  have h1 := hf i f hfi
  rw [hc1, List.getElem?_eq_getElem hi] at h1
  obtain ⟨hol, hoc⟩ := List.getElem?_eq_some_iff.1 hco
  have e : (cs.drop f.offset).take 1 = [c] := by
    rw [List.drop_eq_getElem_cons hol, hoc]
    rfl
  rw [e] at h1
  exact ⟨_, h1⟩
/-- A slice of structs of n cells each: each element's cells, and that they were read. -/
theorem structs_read {t e : TypeId} (ht : P.underlying t = some (.slice e)) (hpos : 0 < P.cellsOf e) {fuel : Nat} {a0 : Option Addr} {len cap : Nat} {y : DataW H × List MemPlace} (h : DataW.trod enc P w base (fun _ => true) held fuel t [.slice a0 len cap] = some y) :
    len = 0 ∨ ∃ b off n, a0 = some ⟨b, off, none⟩ ∧ b < w.heap.size ∧ len ≤ cap ∧ cap ≤ maxLen ∧ ∀ i, i < len → ∃ cs z, cs.length = P.cellsOf e ∧ (∀ j, j < P.cellsOf e → w.cell? ⟨b, off + i * P.cellsOf e + j, none⟩ = cs[j]?) ∧ DataW.trod enc P w base (fun _ => true) held n e cs = some z := by
  rcases Go.Deep.open_slice ht h with ⟨hcs, _⟩ | ⟨x, l, c, m, n, D, Pl, hcs, _, hl, hm, hmm, _, hel⟩
  · left
    simp at hcs
    exact hcs.2.1
  · simp at hcs
    obtain ⟨rfl, rfl, rfl⟩ := hcs
    by_cases h0 : len = 0
    · exact .inl h0
    right
    have hmc : m = cap := by simpa using hmm
    obtain ⟨b, off, spot⟩ := x
    obtain ⟨cs0, hc0, _⟩ := hel 0 (by omega)
    have q0 := (World.cells?_some hc0).2.2 0 hpos
    have hlen0 := (World.cells?_some hc0).2.1
    have hz : ((⟨b, off, spot⟩ : Addr).add (0 * P.cellsOf e)).add 0 = ⟨b, off, spot⟩ := by simp [Addr.add]
    rw [hz] at q0
    have q1 : w.cell? ⟨b, off, spot⟩ = some (cs0[0]'(by omega)) := by rw [q0]; exact List.getElem?_eq_getElem _
    have hspot : spot = none := by simpa using World.cell?_spot q1
    subst hspot
    refine ⟨b, off, n, rfl, World.block_lt_of_cell? w _ q1, hl, hm, fun i hi => ?_⟩
    obtain ⟨cs, hcs, ht'⟩ := hel i (by omega)
    refine ⟨cs, _, (World.cells?_some hcs).2.1, fun j hj => ?_, ht'⟩
    have hcell := (World.cells?_some hcs).2.2 j hj
    rw [add_none, add_none] at hcell
    exact hcell
end Go.Proofs.YtlbgdgobhiokpaaDoor

/- What the reading of a slice of nodes says of memory. -/
namespace Go.Proofs.YtlbgdgobhiokpaaDoor
open Go.ChangeShapes Go.WideShapes Go.ChangeAt Go.RowKit
set_option linter.unusedVariables false

variable {H : Type} {enc : TypeId × Value → H} {w : World} {base : Nat} {held : Bool}
theorem len3 {cs : List Value} (h : cs.length = 3) : ∃ c0 c1 c2, cs = [c0, c1, c2] := by
  match cs, h with
  | [c0, c1, c2], _ => exact ⟨c0, c1, c2, rfl⟩
theorem cells37' : Tryd.prog.cellsOf 37 = 3 := by kernel_rfl
theorem node_open {fuel : Nat} {cs : List Value} {y : DataW H × List MemPlace} (h : DataW.trod enc Tryd.prog w base (fun _ => true) held fuel 37 cs = some y) :
    ∃ x : Nd, cs = [.int .i64 x.1, .int .u64 x.2.1, .int .i64 x.2.2] ∧ Fits x := by
  obtain ⟨hl, m, hf⟩ := field_read Tryd.underlying37 h
  rw [cells37'] at hl
  obtain ⟨c0, c1, c2, rfl⟩ := len3 hl
  obtain ⟨y0, t0⟩ := hf 0 _ c0 rfl (by kernel_rfl) rfl
  obtain ⟨y1, t1⟩ := hf 1 _ c1 rfl (by kernel_rfl) rfl
  obtain ⟨y2, t2⟩ := hf 2 _ c2 rfl (by kernel_rfl) rfl
  obtain ⟨k, k0, _, wk⟩ := DataW.trod_int Tryd.underlying3 t0
  obtain ⟨n, k1, _, wn⟩ := DataW.trod_int Tryd.underlying35 t1
  obtain ⟨c, k2, _, wc⟩ := DataW.trod_int Tryd.underlying3 t2
  simp at k0 k1 k2
  subst k0 k1 k2
  have b0 := bounds_i64 wk
  have b1 := bounds_u64 wn
  have b2 := bounds_i64 wc
  exact ⟨(k, n, c), rfl, b0, b1, b2⟩
theorem nodes_open {fuel : Nat} {a0 : Option Addr} {len cap : Nat} {y : DataW H × List MemPlace} (h : DataW.trod enc Tryd.prog w base (fun _ => true) held fuel 22 [.slice a0 len cap] = some y) :
    ∃ raw : List Nd, raw.length = len ∧ len ≤ maxLen ∧ NRaw w a0 raw ∧ ∀ x ∈ raw, Fits x := by
  rcases structs_read Tryd.underlying22 (by rw [cells37']; omega) h with h0 | ⟨b, off, n, rfl, hb, hlc, hcm, hel⟩
  · subst h0
    exact ⟨[], rfl, Nat.zero_le _, .inl rfl, fun x hx => by cases hx⟩
  · rw [cells37'] at hel
    have key : ∀ m, m ≤ len → ∃ raw : List Nd, raw.length = m ∧ (∀ i, i < m → w.cell? ⟨b, off + i * 3, none⟩ = some (.int .i64 (raw.getD i nil0).1) ∧ w.cell? ⟨b, off + i * 3 + 1, none⟩ = some (.int .u64 (raw.getD i nil0).2.1) ∧ w.cell? ⟨b, off + i * 3 + 2, none⟩ = some (.int .i64 (raw.getD i nil0).2.2)) ∧ ∀ x ∈ raw, Fits x := by
      intro m
      induction m with
      | zero => exact fun _ => ⟨[], rfl, fun i hi => by omega, fun x hx => by cases hx⟩
      | succ m ih =>
        intro hm
        obtain ⟨raw, h1, h2, h3⟩ := ih (by omega)
        obtain ⟨cs, z, _, hcell, ht⟩ := hel m (by omega)
        obtain ⟨x, rfl, hx⟩ := node_open ht
        refine ⟨raw ++ [x], by simp [h1], fun i hi => ?_, fun y hy => ?_⟩
        · by_cases hi2 : i < m
          · have e1 : (raw ++ [x]).getD i nil0 = raw.getD i nil0 := by simp [List.getD, List.getElem?_append_left (show i < raw.length by omega)]
            rw [e1]
            exact h2 i hi2
          · obtain rfl : i = m := by omega
            have e1 : (raw ++ [x]).getD i nil0 = x := by subst h1; simp [List.getD]
            rw [e1]
            exact ⟨hcell 0 (by omega), hcell 1 (by omega), hcell 2 (by omega)⟩
        · rcases List.mem_append.1 hy with hy | hy
          · exact h3 y hy
          · simp at hy; subst hy; exact hx
    obtain ⟨raw, h1, h2, h3⟩ := key len (Nat.le_refl _)
    exact ⟨raw, h1, Nat.le_trans hlc hcm, .inr (.inr ⟨b, off, rfl, hb, fun i hi => h2 i (by omega)⟩), h3⟩
end Go.Proofs.YtlbgdgobhiokpaaDoor

/- What the rows' lists of laid variables give, and a world in which they hold. -/
namespace Go.Proofs.YtlbgdgobhiokpaaDoor
open Go.RowKit
set_option linter.unusedVariables false

theorem own : ownKnob Tryd.prog.godebug = none := by kernel_rfl
theorem laidOut : laidOutB Tryd.prog = true := by kernel_rfl
theorem gPow : Tryd.prog.globalNamed "internal/strconv.uint64pow10" = some 0 := by kernel_rfl
theorem gPowT : (Tryd.prog.globals[0]?).map (·.type) = some 154 := by kernel_rfl
theorem cells154 : Tryd.prog.cellsOf 154 = 20 := by kernel_rfl
theorem laid_pow : (Rows.laid_internal_strconv_uint64pow10 : DataW Unit) = Lib.tabData .u64 Lib.pow10Tab := by kernel_rfl
theorem tab_of {W : World} (h : laidMetH Tryd.prog Rows.valueWayRow.laid W) (hs : 1 ≤ W.heap.size) : Tab W.heap.size W := by
  have h1 : laidMet Tryd.prog Rows.valueWayRow.laid W := h
  have h2 : laidMet Tryd.prog [("internal/strconv.uint64pow10", Rows.laid_internal_strconv_uint64pow10)] W := laidMet.tail (laidMet.tail h1)
  rw [laid_pow] at h2
  refine ⟨Lib.tabIs_of_head (e := 35) gPow gPowT (by kernel_rfl) (by kernel_rfl) (by kernel_rfl) cells154 h2, fun g hg => ?_⟩
  obtain rfl := Option.some.inj (gPow.symm.trans hg)
  omega
theorem tab_size {W : World} (h : laidMetH Tryd.prog Rows.valueWayRow.laid W) : 1 ≤ W.heap.size := by
  have h1 : laidMet Tryd.prog Rows.valueWayRow.laid W := h
  have h2 : laidMet Tryd.prog [("internal/strconv.uint64pow10", Rows.laid_internal_strconv_uint64pow10)] W := laidMet.tail (laidMet.tail h1)
  rw [laid_pow] at h2
  have h3 := Lib.tabIs_of_head (e := 35) gPow gPowT (by kernel_rfl) (by kernel_rfl) (by kernel_rfl) cells154 h2
  have h4 := World.block_lt_of_cell? W _ (h3.cell gPow 0 (by decide))
  exact h4
/-- The settled world w, the three tables (blocks 0, 1, 2) holding what their initialisers lay. -/
def laidIn (w : World) : World :=
  { w with heap := ((w.heap.modify 0 fun
      | .cells _ t frozen => .cells (Lib.pow10Tab.map fun z => Value.int .u64 z).toArray t frozen
      | o => o).modify 1 fun
      | .cells _ t frozen => .cells #[.int .u8 0, .int .u8 1, .int .u8 28, .int .u8 2, .int .u8 29, .int .u8 14, .int .u8 24, .int .u8 3, .int .u8 30, .int .u8 22, .int .u8 20, .int .u8 15, .int .u8 25, .int .u8 17, .int .u8 4, .int .u8 8, .int .u8 31, .int .u8 27, .int .u8 13, .int .u8 23, .int .u8 21, .int .u8 19, .int .u8 16, .int .u8 7, .int .u8 26, .int .u8 12, .int .u8 18, .int .u8 6, .int .u8 11, .int .u8 5, .int .u8 10, .int .u8 9] t frozen
      | o => o).modify 2 fun
      | .cells _ t frozen => .cells #[.int .u8 0, .int .u8 1, .int .u8 56, .int .u8 2, .int .u8 57, .int .u8 49, .int .u8 28, .int .u8 3, .int .u8 61, .int .u8 58, .int .u8 42, .int .u8 50, .int .u8 38, .int .u8 29, .int .u8 17, .int .u8 4, .int .u8 62, .int .u8 47, .int .u8 59, .int .u8 36, .int .u8 45, .int .u8 43, .int .u8 51, .int .u8 22, .int .u8 53, .int .u8 39, .int .u8 33, .int .u8 30, .int .u8 24, .int .u8 18, .int .u8 12, .int .u8 5, .int .u8 63, .int .u8 55, .int .u8 48, .int .u8 27, .int .u8 60, .int .u8 41, .int .u8 37, .int .u8 16, .int .u8 46, .int .u8 35, .int .u8 44, .int .u8 21, .int .u8 52, .int .u8 32, .int .u8 23, .int .u8 11, .int .u8 54, .int .u8 26, .int .u8 40, .int .u8 15, .int .u8 34, .int .u8 20, .int .u8 31, .int .u8 10, .int .u8 25, .int .u8 14, .int .u8 19, .int .u8 9, .int .u8 13, .int .u8 8, .int .u8 7, .int .u8 6] t frozen
      | o => o }
end Go.Proofs.YtlbgdgobhiokpaaDoor
