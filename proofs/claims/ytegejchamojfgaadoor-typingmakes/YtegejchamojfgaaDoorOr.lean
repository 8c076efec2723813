/- The document's light, of a schema that may be: it answers. -/
import Derived.Test.YtegejchamojfgaaDoorOo
import Derived.Test.YtegejchamojfgaaDoorZrd
namespace Go.Proofs.YtegejchamojfgaaDoor
open Go.RowKit
set_option linter.unusedVariables false

theorem fldF (a b : Value) (w : World) : (Instr.field 40 (.agg #[a, b]) 0).run Tryd.prog w = .ok a w := by kernel_rfl
theorem nOk_of2 {t : Ty} {i : Int} (h : tyOk t i = true) : (t.k = 1 ∧ (t.n = 1 ∨ t.n = 2 ∨ t.n = 4 ∨ t.n = 8)) ∨ ((t.k = 4 ∨ t.k = 5) ∧ 1 ≤ t.n ∧ t.n ≤ 1048576) ∨ ((t.k = 2 ∨ t.k = 3 ∨ t.k = 6 ∨ t.k = 7 ∨ t.k = 8) ∧ t.n = 0) := by
  have h1 := (tyOk_parts h).1
  unfold nOk at h1
  exact of_decide_eq_true h1
/-- It answers a bool. -/
def AnsB (e : Ending) : Prop := ∃ b, e = .returned (.bool b)
theorem tyOk_some2 {t : Ty} {i : Int} (h : tyOk t i = true) (hk : t.k = 7 ∨ t.k = 8) : 0 < t.ps.length := by
  have h3 := (tyOk_parts h).2.2
  have key : ∀ r, allP r t.ps i = true → 0 < t.ps.length := fun r hr => by
    unfold allP at hr
    rw [Bool.and_eq_true, decide_eq_true_eq] at hr
    omega
  unfold partsOk at h3
  split at h3
  · exact key _ h3
  · rw [if_pos (by omega)] at h3
    exact key _ h3
/-- All of a list lie between 1 and 2000. -/
def In2 (l : List Int) : Prop := ∀ i, i < l.length → 1 ≤ l.getD i 0 ∧ l.getD i 0 ≤ 2000
theorem In2.snoc {l : List Int} {x : Int} (h : In2 l) (h1 : 1 ≤ x) (h2 : x ≤ 2000) : In2 (l ++ [x]) := fun i hi => by
  rcases Nat.lt_or_ge i l.length with hlt | hge
  · have e : (l ++ [x]).getD i 0 = l.getD i 0 := by simp [List.getD, List.getElem?_append_left hlt]
    rw [e]
    exact h i hlt
  · have hi2 : i = l.length := by simp at hi; omega
    subst hi2
    have e : (l ++ [x]).getD l.length 0 = x := by simp [List.getD]
    rw [e]
    exact ⟨h1, h2⟩
set_option maxRecDepth 100000 in
set_option maxHeartbeats 8000000 in
theorem light_any (aT : Option Addr) (cT : Nat) (T : List Ty) (aR : Option Addr) (cR : Nat) (R : List Rt) (t : Nat) (w : World) (hn : T.length ≤ 1000000) (hm : R.length ≤ 1000000) (ht : t < T.length) (hS : Hid (OkS T R)) (hl : Hid (LensT T)) (hT : Hid (TRow w aT T)) (hRr : Hid (RRow w aR R)) :
    Calls Tryd.prog 15 #[.agg #[.slice aT T.length cT, .slice aR R.length cR], .int .i64 (t : Int)] w fun e w' => AnsB e ∧ Hid (Below w.heap.size w w') := by
  obtain ⟨w1, hw1⟩ : ∃ wx, wx = w.alloc (.cells #[.slice aT T.length cT, .slice aR R.length cR] 25) := ⟨_, rfl⟩
  have b1 : Below w.heap.size w w1 := by rw [hw1]; exact below1 _ _
  have k1 : Blk w1 w.heap.size 25 [.slice aT T.length cT, .slice aR R.length cR] := by rw [hw1]; exact Blk.newA w _ _
  have K1 := hide_ k1
  have HB1 := hide_ b1
  have hck := checkR_any aT cT T aR cR R w1 (by omega) (by omega) hl (hide_ (hT.out.later b1)) (hide_ (hRr.out.later b1))
  rw [hS.out.chk] at hck
  have HCk := hide_ hck
  have i0 := k1.cell 0; have i1 := k1.cell 1
  simp at i0 i1
  have ht' : (t : Int) < T.length := by omega
  have htc : decide ((T.length : Int) ≤ (t : Int)) = false := decide_eq_false (by omega)
  have htc2 : decide (T.length ≤ t) = false := decide_eq_false (by omega)
  have ht0 : decide ((t : Int) < 0) = false := decide_eq_false (by omega)
  clear b1 k1 hck
  go_enter Tryd.func15, Tryd.ntmps15
  go_upto_region 1 with fail
  rw [← hw1]
  clear hw1
  go_wp2_with fail
  refine HCk.out.mono ?_
  rintro e w2 ⟨rfl, hB2⟩
  have HB2 := hide_ (below_to HB1.out hB2)
  have K2 := hide_ (K1.out.later hB2)
  clear hB2 HCk i0 i1 K1 HB1
  dsimp only
  have hff := fldF (.int .i64 0) (.int .i64 0)
  go_wp2_with fail
  clear hff htc htc2 ht0
  go_loopw [5, 6] (fun x5 x6 wr => ∃ (i : Nat) (l : List Int) (v : Value), v = x5 ∧ i ≤ t + 1 ∧ x6 = .int .i64 (i : Int) ∧ Hid (l.length = i) ∧ Hid (In2 l) ∧ Hid (IOwn wr w.heap.size v l) ∧ Hid (Blk wr w.heap.size 25 [.slice aT T.length cT, .slice aR R.length cR]) ∧ Hid (Below w.heap.size w wr)) (fun _ x6 _ => t + 1 - (intOf x6).toNat)
  case atStart => exact ⟨0, [], _, rfl, Nat.zero_le _, rfl, rfl, hide_ (fun i hi => by cases hi), hide_ (IOwn.nil _ _), K2, HB2⟩
  case round =>
    obtain ⟨i, l, v, rfl, hi, rfl, HL, HI, HO, HK, HB⟩ := hrel
    clear K2 HB2
    generalize wr = wq at *
    by_cases hlt : i ≤ t
    · have hlt' : (i : Int) ≤ t := by omega
      have hiT : i < T.length := by omega
      have hiT' : (i : Int) < T.length := by omega
      have hx : T[i]? = some (T[i]'hiT) := List.getElem?_eq_getElem hiT
      have hok := hS.out.ty i hiT
      rw [show T.getD i ty0 = T[i]'hiT by simp [List.getD, hiT]] at hok
      obtain ⟨bT, oT, rfl, hbT, hcT⟩ := hT.out.open (by omega)
      obtain ⟨va, vc, hty, -, -, hpr⟩ := hcT i _ hx
      generalize T[i]'hiT = y at *
      have HOK := hide_ hok
      have HPR := hide_ hpr
      have hty' : ∀ j, j < 4 → wq.cell? ⟨bT, oT + i * 4 + j, none⟩ = (tyc y (.slice va y.ps.length vc))[j]? := fun j hj => (HB.out.cell (p := ⟨bT, oT + i * 4 + j, none⟩) hbT).trans (hty j hj)
      have y0 := hty' 0 (by decide); have y1 := hty' 1 (by decide); have y2 := hty' 2 (by decide); have y3 := hty' 3 (by decide)
      simp [tyc] at y0 y1 y2 y3
      have i0 := HK.out.cell 0
      simp at i0
      obtain ⟨w3, hw3⟩ : ∃ wx, wx = wq.alloc (.cells #[.int .i64 y.k, .int .i64 y.n, .int .i64 y.e, .slice va y.ps.length vc] 68) := ⟨_, rfl⟩
      have b3 : Below wq.heap.size wq w3 := by rw [hw3]; exact below1 _ _
      have k3 : Blk w3 wq.heap.size 68 [.int .i64 y.k, .int .i64 y.n, .int .i64 y.e, .slice va y.ps.length vc] := by rw [hw3]; exact Blk.newA wq _ _
      have HB3 := hide_ (below_to HB.out b3)
      have KS3 := hide_ (HK.out.later b3)
      have HO3 := hide_ (HO.out.later b3)
      have KT3 := hide_ k3
      have q0 := k3.cell 0; have q1 := k3.cell 1; have q2 := k3.cell 2; have q3 := k3.cell 3
      simp at q0 q1 q2 q3
      clear hx hok hcT hty hpr hty' b3 k3
      go_upto_region 9 with fail
      rw [← hw3]
      clear hw3 y0 y1 y2 y3 i0
      have hokn := nOk_of2 HOK.out
      have hll := HL.out
      obtain ⟨av, cv, hav⟩ := HO3.out.slice
      rw [hll] at hav
      subst hav
      have HLL := hide_ hll
      clear hll
      have hzz : wq.heap.size < w3.heap.size := KT3.out.lt
      by_cases h4 : y.k = 4
      · have he := tyOk_elem HOK.out (by simp [hasE, h4])
        obtain ⟨en, hen⟩ := Int.eq_ofNat_of_zero_le he.1
        rw [hen] at he
        have hel : en < l.length := by rw [HLL.out]; omega
        have hv := HI.out en hel
        obtain ⟨g, cap, ys, hv1, -, -, -, -, -, -⟩ := ownS_blk HO3.out (by omega)
        injection hv1 with hv1 hv2 hv3
        clear hv2
        subst hv1 hv3
        have cE := HO3.out.at hel
        rw [hen] at q2
        generalize l.getD en 0 = z at *
        have hN : 1 ≤ y.n ∧ y.n ≤ 1048576 := by omega
        have hz : z ≤ 10000 := by omega
        have hel' : (en : Int) < (i : Int) := by omega
        clear hel
        have hpr : 0 ≤ y.n * z ∧ y.n * z ≤ 1048576 * 2000 := ⟨Int.mul_nonneg (by omega) (by omega), Int.mul_le_mul (by omega) (by omega) (by omega) (by omega)⟩
        have hk4 : (y.k == 4) = true := by simp [h4]
        have HBw : Hid (Below w3.heap.size w3 w3.drew) := hide_ ((Below.refl _ _).drew)
        generalize hyz : y.n * z = yz at *
        go_wp2_with fail
        go_region
        clear cE hk4
        by_cases hbig : 10000 < 1 + yz
        · have hll := HLL.out
          obtain ⟨g8, cap8, w8, hrun, ho8, hu8, -⟩ := (HO3.out.later HBw.out).push ((10000 : Int)) (by omega) (Nat.le_trans HB.out.size (Nat.le_trans (Nat.le_of_lt hzz) HBw.out.size))
          have HR8 := hide_ hrun
          have HO8 := hide_ ho8
          have HB8 := hide_ (below_to3 (below_to HB3.out HBw.out) hu8 (fun k hk => (World.ownsRow.lt (HO3.out.later HBw.out) k hk).1))
          have KS8 := hide_ ((KS3.out.later HBw.out).upd hu8 (IOwn.ne (HO3.out.later HBw.out) (KS3.out.later HBw.out) (by decide)))
          have c8 : w8.cell? ⟨g8, i, none⟩ = some (.int .i64 ((10000 : Int))) := by
            have h := HO8.out.at (i := i) (by simp; omega)
            rw [show (l ++ [(10000 : Int)]).getD i 0 = (10000 : Int) by rw [← hll]; simp [List.getD]] at h
            exact h
          rw [hll] at HR8 HO8
          clear hrun ho8 hu8 hll
          go_upto_region 22 with fail
          clear q0 q1 q2 q3
          go_wp2_with (at_builtin; refine wpList_append_run rfl (.tmp 89) (.tmp 93) 26 26 rfl rfl rfl HR8.out ?_)
          go_ret
          exact ⟨⟨false, rfl⟩, HB8⟩
        · by_cases hmid : 2000 < 1 + yz
          · have hll := HLL.out
            obtain ⟨g8, cap8, w8, hrun, ho8, hu8, -⟩ := (HO3.out.later HBw.out).push (1 + yz) (by omega) (Nat.le_trans HB.out.size (Nat.le_trans (Nat.le_of_lt hzz) HBw.out.size))
            have HR8 := hide_ hrun
            have HO8 := hide_ ho8
            have HB8 := hide_ (below_to3 (below_to HB3.out HBw.out) hu8 (fun k hk => (World.ownsRow.lt (HO3.out.later HBw.out) k hk).1))
            have KS8 := hide_ ((KS3.out.later HBw.out).upd hu8 (IOwn.ne (HO3.out.later HBw.out) (KS3.out.later HBw.out) (by decide)))
            have c8 : w8.cell? ⟨g8, i, none⟩ = some (.int .i64 (1 + yz)) := by
              have h := HO8.out.at (i := i) (by simp; omega)
              rw [show (l ++ [1 + yz]).getD i 0 = 1 + yz by rw [← hll]; simp [List.getD]] at h
              exact h
            rw [hll] at HR8 HO8
            clear hrun ho8 hu8 hll
            go_upto_region 22 with fail
            clear q0 q1 q2 q3
            go_wp2_with (at_builtin; refine wpList_append_run rfl (.tmp 89) (.tmp 93) 26 26 rfl rfl rfl HR8.out ?_)
            go_ret
            exact ⟨⟨false, rfl⟩, HB8⟩
          · have hmid' : 1 + yz ≤ 2000 := by omega
            have hll := HLL.out
            obtain ⟨g8, cap8, w8, hrun, ho8, hu8, -⟩ := (HO3.out.later HBw.out).push (1 + yz) (by omega) (Nat.le_trans HB.out.size (Nat.le_trans (Nat.le_of_lt hzz) HBw.out.size))
            have HR8 := hide_ hrun
            have HO8 := hide_ ho8
            have HB8 := hide_ (below_to3 (below_to HB3.out HBw.out) hu8 (fun k hk => (World.ownsRow.lt (HO3.out.later HBw.out) k hk).1))
            have KS8 := hide_ ((KS3.out.later HBw.out).upd hu8 (IOwn.ne (HO3.out.later HBw.out) (KS3.out.later HBw.out) (by decide)))
            have c8 : w8.cell? ⟨g8, i, none⟩ = some (.int .i64 (1 + yz)) := by
              have h := HO8.out.at (i := i) (by simp; omega)
              rw [show (l ++ [1 + yz]).getD i 0 = 1 + yz by rw [← hll]; simp [List.getD]] at h
              exact h
            rw [hll] at HR8 HO8
            clear hrun ho8 hu8 hll
            go_upto_region 22 with fail
            clear q0 q1 q2 q3
            go_wp2_with (at_builtin; refine wpList_append_run rfl (.tmp 89) (.tmp 93) 26 26 rfl rfl rfl HR8.out ?_)
            go_roundw
            case rel => exact ⟨i + 1, l ++ [1 + yz], _, rfl, by omega, by go_num, hide_ (by simp [HLL.out]), hide_ (HI.out.snoc (by omega) (by omega)), HO8, KS8, HB8⟩
            case measure => simp [intOf]; omega
      have hk4 : (y.k == 4) = false := by simp [h4]
      by_cases h7 : y.k = 7
      · have hk7 : (y.k == 7) = true := by simp [h7]
        have hps := tyOk_some2 HOK.out (by omega)
        have hps2 := tyOk_len HOK.out
        go_wp2_with fail
        go_loop [8, 9] (fun x8 xj => ∃ (j : Nat) (n : Int), j ≤ y.ps.length ∧ xj = .int .i64 (j : Int) ∧ x8 = .int .i64 n ∧ 0 ≤ n ∧ n ≤ 2000) (fun _ xj => y.ps.length - (intOf xj).toNat)
        case atStart => exact ⟨0, 0, Nat.zero_le _, rfl, rfl, by omega, by omega⟩
        case round =>
          obtain ⟨j, n, hj, rfl, rfl, hn0, hn1⟩ := hrel
          by_cases hjl : j < y.ps.length
          · have hjl' : (j : Int) < y.ps.length := by omega
            have hpx : y.ps[j]? = some (y.ps[j]'hjl) := List.getElem?_eq_getElem hjl
            have hpt := tyOk_part HOK.out hpx
            obtain ⟨bP, oP, rfl, hbP, hcP⟩ := (HPR.out.later HB3.out).open (by omega)
            have p2 := hcP j _ hpx 2 (by decide)
            simp [ptc] at p2
            generalize (y.ps[j]'hjl).ty = e at *
            obtain ⟨en, rfl⟩ := Int.eq_ofNat_of_zero_le hpt.1
            have hel : en < l.length := by rw [HLL.out]; omega
            have hv := HI.out en hel
            obtain ⟨g, cap, ys, hv1, -, -, -, -, -, -⟩ := ownS_blk HO3.out (by omega)
            injection hv1 with hv1 hv2 hv3
            clear hv2
            subst hv1 hv3
            have cE := HO3.out.at hel
            generalize l.getD en 0 = z at *
            have hel' : (en : Int) < (i : Int) := by omega
            clear hcP hpx hel hpt
            by_cases hmx : n < z
            · go_wp2
              go_round
              case rel => exact ⟨j + 1, z, by omega, by go_num, by first | rfl | (congr 1; omega) | (rw [if_pos hmx]), by omega, by omega⟩
              case measure => simp [intOf]; omega
            · go_wp2
              go_round
              case rel => exact ⟨j + 1, n, by omega, by go_num, by first | rfl | (congr 1; omega) | (rw [if_neg hmx]), by omega, by omega⟩
              case measure => simp [intOf]; omega
          · obtain rfl : j = y.ps.length := by omega
            have HBw : Hid (Below w3.heap.size w3 w3) := hide_ (Below.refl _ _)
            by_cases hbig : 10000 < 1 + n
            · exact absurd hbig (by omega)
            · by_cases hmid : 2000 < 1 + n
              · have hll := HLL.out
                obtain ⟨g8, cap8, w8, hrun, ho8, hu8, -⟩ := (HO3.out).push (1 + n) (by omega) (Nat.le_trans HB.out.size (Nat.le_trans (Nat.le_of_lt hzz) HBw.out.size))
                have HR8 := hide_ hrun
                have HO8 := hide_ ho8
                have HB8 := hide_ (below_to3 (below_to HB3.out HBw.out) hu8 (fun k hk => (World.ownsRow.lt (HO3.out) k hk).1))
                have KS8 := hide_ ((KS3.out.later HBw.out).upd hu8 (IOwn.ne (HO3.out) (KS3.out.later HBw.out) (by decide)))
                have c8 : w8.cell? ⟨g8, i, none⟩ = some (.int .i64 (1 + n)) := by
                  have h := HO8.out.at (i := i) (by simp; omega)
                  rw [show (l ++ [1 + n]).getD i 0 = 1 + n by rw [← hll]; simp [List.getD]] at h
                  exact h
                rw [hll] at HR8 HO8
                clear hrun ho8 hu8 hll
                go_upto_region 22 with fail
                clear q0 q1 q2 q3
                go_wp2_with (at_builtin; refine wpList_append_run rfl (.tmp 89) (.tmp 93) 26 26 rfl rfl rfl HR8.out ?_)
                go_ret
                exact ⟨⟨false, rfl⟩, HB8⟩
              · have hmid' : 1 + n ≤ 2000 := by omega
                have hll := HLL.out
                obtain ⟨g8, cap8, w8, hrun, ho8, hu8, -⟩ := (HO3.out).push (1 + n) (by omega) (Nat.le_trans HB.out.size (Nat.le_trans (Nat.le_of_lt hzz) HBw.out.size))
                have HR8 := hide_ hrun
                have HO8 := hide_ ho8
                have HB8 := hide_ (below_to3 (below_to HB3.out HBw.out) hu8 (fun k hk => (World.ownsRow.lt (HO3.out) k hk).1))
                have KS8 := hide_ ((KS3.out.later HBw.out).upd hu8 (IOwn.ne (HO3.out) (KS3.out.later HBw.out) (by decide)))
                have c8 : w8.cell? ⟨g8, i, none⟩ = some (.int .i64 (1 + n)) := by
                  have h := HO8.out.at (i := i) (by simp; omega)
                  rw [show (l ++ [1 + n]).getD i 0 = 1 + n by rw [← hll]; simp [List.getD]] at h
                  exact h
                rw [hll] at HR8 HO8
                clear hrun ho8 hu8 hll
                go_upto_region 22 with fail
                clear q0 q1 q2 q3
                go_wp2_with (at_builtin; refine wpList_append_run rfl (.tmp 89) (.tmp 93) 26 26 rfl rfl rfl HR8.out ?_)
                go_roundw
                case rel => exact ⟨i + 1, l ++ [1 + n], _, rfl, by omega, by go_num, hide_ (by simp [HLL.out]), hide_ (HI.out.snoc (by omega) (by omega)), HO8, KS8, HB8⟩
                case measure => simp [intOf]; omega
      have hk7 : (y.k == 7) = false := by simp [h7]
      by_cases h8 : y.k = 8
      · have hk8 : (y.k == 8) = true := by simp [h8]
        have hps := tyOk_some2 HOK.out (by omega)
        have hps2 := tyOk_len HOK.out
        go_wp2_with fail
        go_loop [8, 10] (fun x8 xj => ∃ (j : Nat) (n : Int), j ≤ y.ps.length ∧ xj = .int .i64 (j : Int) ∧ x8 = .int .i64 n ∧ 0 ≤ n ∧ n ≤ 2000 * (j : Int)) (fun _ xj => y.ps.length - (intOf xj).toNat)
        case atStart => exact ⟨0, 0, Nat.zero_le _, rfl, rfl, by omega, by omega⟩
        case round =>
          obtain ⟨j, n, hj, rfl, rfl, hn0, hn1⟩ := hrel
          by_cases hjl : j < y.ps.length
          · have hjl' : (j : Int) < y.ps.length := by omega
            have hpx : y.ps[j]? = some (y.ps[j]'hjl) := List.getElem?_eq_getElem hjl
            have hpt := tyOk_part HOK.out hpx
            obtain ⟨bP, oP, rfl, hbP, hcP⟩ := (HPR.out.later HB3.out).open (by omega)
            have p2 := hcP j _ hpx 2 (by decide)
            simp [ptc] at p2
            generalize (y.ps[j]'hjl).ty = e at *
            obtain ⟨en, rfl⟩ := Int.eq_ofNat_of_zero_le hpt.1
            have hel : en < l.length := by rw [HLL.out]; omega
            have hv := HI.out en hel
            obtain ⟨g, cap, ys, hv1, -, -, -, -, -, -⟩ := ownS_blk HO3.out (by omega)
            injection hv1 with hv1 hv2 hv3
            clear hv2
            subst hv1 hv3
            have cE := HO3.out.at hel
            generalize l.getD en 0 = z at *
            have hel' : (en : Int) < (i : Int) := by omega
            clear hcP hpx hel hpt
            go_wp2
            go_round
            case rel => exact ⟨j + 1, n + z, by omega, by go_num, by go_num, by omega, by omega⟩
            case measure => simp [intOf]; omega
          · obtain rfl : j = y.ps.length := by omega
            have HBw : Hid (Below w3.heap.size w3 w3) := hide_ (Below.refl _ _)
            by_cases hbig : 10000 < 1 + n
            · have hll := HLL.out
              obtain ⟨g8, cap8, w8, hrun, ho8, hu8, -⟩ := (HO3.out).push ((10000 : Int)) (by omega) (Nat.le_trans HB.out.size (Nat.le_trans (Nat.le_of_lt hzz) HBw.out.size))
              have HR8 := hide_ hrun
              have HO8 := hide_ ho8
              have HB8 := hide_ (below_to3 (below_to HB3.out HBw.out) hu8 (fun k hk => (World.ownsRow.lt (HO3.out) k hk).1))
              have KS8 := hide_ ((KS3.out.later HBw.out).upd hu8 (IOwn.ne (HO3.out) (KS3.out.later HBw.out) (by decide)))
              have c8 : w8.cell? ⟨g8, i, none⟩ = some (.int .i64 ((10000 : Int))) := by
                have h := HO8.out.at (i := i) (by simp; omega)
                rw [show (l ++ [(10000 : Int)]).getD i 0 = (10000 : Int) by rw [← hll]; simp [List.getD]] at h
                exact h
              rw [hll] at HR8 HO8
              clear hrun ho8 hu8 hll
              go_upto_region 22 with fail
              clear q0 q1 q2 q3
              go_wp2_with (at_builtin; refine wpList_append_run rfl (.tmp 89) (.tmp 93) 26 26 rfl rfl rfl HR8.out ?_)
              go_ret
              exact ⟨⟨false, rfl⟩, HB8⟩
            · by_cases hmid : 2000 < 1 + n
              · have hll := HLL.out
                obtain ⟨g8, cap8, w8, hrun, ho8, hu8, -⟩ := (HO3.out).push (1 + n) (by omega) (Nat.le_trans HB.out.size (Nat.le_trans (Nat.le_of_lt hzz) HBw.out.size))
                have HR8 := hide_ hrun
                have HO8 := hide_ ho8
                have HB8 := hide_ (below_to3 (below_to HB3.out HBw.out) hu8 (fun k hk => (World.ownsRow.lt (HO3.out) k hk).1))
                have KS8 := hide_ ((KS3.out.later HBw.out).upd hu8 (IOwn.ne (HO3.out) (KS3.out.later HBw.out) (by decide)))
                have c8 : w8.cell? ⟨g8, i, none⟩ = some (.int .i64 (1 + n)) := by
                  have h := HO8.out.at (i := i) (by simp; omega)
                  rw [show (l ++ [1 + n]).getD i 0 = 1 + n by rw [← hll]; simp [List.getD]] at h
                  exact h
                rw [hll] at HR8 HO8
                clear hrun ho8 hu8 hll
                go_upto_region 22 with fail
                clear q0 q1 q2 q3
                go_wp2_with (at_builtin; refine wpList_append_run rfl (.tmp 89) (.tmp 93) 26 26 rfl rfl rfl HR8.out ?_)
                go_ret
                exact ⟨⟨false, rfl⟩, HB8⟩
              · have hmid' : 1 + n ≤ 2000 := by omega
                have hll := HLL.out
                obtain ⟨g8, cap8, w8, hrun, ho8, hu8, -⟩ := (HO3.out).push (1 + n) (by omega) (Nat.le_trans HB.out.size (Nat.le_trans (Nat.le_of_lt hzz) HBw.out.size))
                have HR8 := hide_ hrun
                have HO8 := hide_ ho8
                have HB8 := hide_ (below_to3 (below_to HB3.out HBw.out) hu8 (fun k hk => (World.ownsRow.lt (HO3.out) k hk).1))
                have KS8 := hide_ ((KS3.out.later HBw.out).upd hu8 (IOwn.ne (HO3.out) (KS3.out.later HBw.out) (by decide)))
                have c8 : w8.cell? ⟨g8, i, none⟩ = some (.int .i64 (1 + n)) := by
                  have h := HO8.out.at (i := i) (by simp; omega)
                  rw [show (l ++ [1 + n]).getD i 0 = 1 + n by rw [← hll]; simp [List.getD]] at h
                  exact h
                rw [hll] at HR8 HO8
                clear hrun ho8 hu8 hll
                go_upto_region 22 with fail
                clear q0 q1 q2 q3
                go_wp2_with (at_builtin; refine wpList_append_run rfl (.tmp 89) (.tmp 93) 26 26 rfl rfl rfl HR8.out ?_)
                go_roundw
                case rel => exact ⟨i + 1, l ++ [1 + n], _, rfl, by omega, by go_num, hide_ (by simp [HLL.out]), hide_ (HI.out.snoc (by omega) (by omega)), HO8, KS8, HB8⟩
                case measure => simp [intOf]; omega
      have hk8 : (y.k == 8) = false := by simp [h8]
      have HBw : Hid (Below w3.heap.size w3 w3) := hide_ (Below.refl _ _)
      have hll := HLL.out
      obtain ⟨g8, cap8, w8, hrun, ho8, hu8, -⟩ := (HO3.out).push ((1 : Int)) (by omega) (Nat.le_trans HB.out.size (Nat.le_trans (Nat.le_of_lt hzz) HBw.out.size))
      have HR8 := hide_ hrun
      have HO8 := hide_ ho8
      have HB8 := hide_ (below_to3 (below_to HB3.out HBw.out) hu8 (fun k hk => (World.ownsRow.lt (HO3.out) k hk).1))
      have KS8 := hide_ ((KS3.out.later HBw.out).upd hu8 (IOwn.ne (HO3.out) (KS3.out.later HBw.out) (by decide)))
      have c8 : w8.cell? ⟨g8, i, none⟩ = some (.int .i64 ((1 : Int))) := by
        have h := HO8.out.at (i := i) (by simp; omega)
        rw [show (l ++ [(1 : Int)]).getD i 0 = (1 : Int) by rw [← hll]; simp [List.getD]] at h
        exact h
      rw [hll] at HR8 HO8
      clear hrun ho8 hu8 hll
      go_upto_region 22 with fail
      clear q0 q1 q2 q3
      go_wp2_with (at_builtin; refine wpList_append_run rfl (.tmp 89) (.tmp 93) 26 26 rfl rfl rfl HR8.out ?_)
      go_roundw
      case rel => exact ⟨i + 1, l ++ [(1 : Int)], _, rfl, by omega, by go_num, hide_ (by simp [HLL.out]), hide_ (HI.out.snoc (by omega) (by omega)), HO8, KS8, HB8⟩
      case measure => simp [intOf]; omega
    · obtain rfl : i = t + 1 := by omega
      go_wp2
      go_ret
      exact ⟨⟨true, rfl⟩, HB⟩
end Go.Proofs.YtegejchamojfgaaDoor
