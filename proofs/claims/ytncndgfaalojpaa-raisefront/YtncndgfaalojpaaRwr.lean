/- RaiseFront: its walk. -/
import Derived.Test.YtncndgfaalojpaaRwl
import Derived.Test.YtncndgfaalojpaaRwx
import Derived.BigQuiet
namespace Go.Proofs.Ytncndgfaalojpaa
open Go.RowKit
set_option linter.unusedVariables false

theorem TRow.front {w : World} {a : Option Addr} {T : List Ty} (h : TRow w a T) (k : Nat) : TRow w a (T.take k) := by
  rcases h with h | ⟨b, o, rfl, hb, hc⟩
  · exact .inl (by rw [h]; simp)
  · refine .inr ⟨b, o, rfl, hb, fun i t ht => hc i t ?_⟩
    rw [List.getElem?_take] at ht
    split at ht
    · exact ht
    · cases ht
theorem tmod_in (a b : Int) (h : 0 < b) : -b < a.tmod b ∧ a.tmod b < b := ⟨by have := Int.lt_tmod_of_pos a h; omega, Int.tmod_lt_of_pos a h⟩
theorem rem_nat {a : Int} (m : Nat) (h : 0 ≤ a) : ∃ q : Nat, a.tmod ((m : Int) + 1) = (q : Int) ∧ q ≤ m := by
  have h1 := Int.tmod_nonneg ((m : Int) + 1) h
  have h2 := (tmod_in a ((m : Int) + 1) (by omega)).2
  exact ⟨(a.tmod ((m : Int) + 1)).toNat, by omega, by omega⟩
theorem elemTy : Try.prog.underlying 22 = some (.slice (Try.prog.elem 22)) := by kernel_rfl
theorem elemTyi : Try.prog.elem 22 = 43 := by kernel_rfl
theorem sizeOfTy (w : World) : (sizeOf (Try.prog.elem 22)).run Try.prog w = .ok 4 w := by
  rw [elemTyi]
  exact Try.sizeOf43 w
theorem addr_zero (a : Addr) : a.add 0 = a := by cases a; simp [Addr.add]
theorem cutTy (a : Option Addr) (n q c : Nat) (hq : q ≤ c) (w' : World) : (Instr.slice 22 (.slice a n c) none (some (.int .i64 (q : Int))) none).run Try.prog w' = .ok (.slice a q c) w' := by
  rw [run_slice_h (P := Try.prog) w' 22 _ n c elemTy .i64 (q : Int) (by omega) (by omega), sizeOfTy]
  cases a <;> simp [sliced, Result.andThen, addr_zero]
set_option maxRecDepth 100000 in
set_option maxHeartbeats 8000000 in
theorem front_any (aT : Option Addr) (cT : Nat) (T : List Ty) (aR : Option Addr) (cR : Nat) (R : List Rt) (nn : Int) (w : World) (hnn : -9223372036854775808 ≤ nn ∧ nn ≤ 9223372036854775807) (hTl : T.length ≤ 3000000000000) (hRl : R.length ≤ 10000000000000) (hcT : T.length ≤ cT) (hno : aT = none → cT = 0) (hL : Hid (LensT T)) (hT : Hid (TRow w aT T)) (hR : Hid (RRow w aR R)) :
    Calls Try.prog 3 #[.agg #[.slice aT T.length cT, .slice aR R.length cR], .int .i64 nn] w fun e w' => e = .returned (.bool true) ∧ Below w.heap.size w w' := by
  obtain ⟨w1, hw1⟩ : ∃ wx, wx = w.alloc (.cells #[.slice aT T.length cT, .slice aR R.length cR] 25) := ⟨_, rfl⟩
  have hB1 : Below w.heap.size w w1 := by rw [hw1]; exact below1 _ _
  have k1 : Blk w1 w.heap.size 25 [.slice aT T.length cT, .slice aR R.length cR] := by rw [hw1]; exact Blk.newA w _ _
  have HAw := hide_ (awake_any w1)
  have HB1 := hide_ hB1
  have K1 := hide_ k1
  clear hB1 k1
  go_enter Try.func3, Try.ntmps3
  go_upto_region 1 with fail
  rw [← hw1]
  clear hw1
  go_upto_region 3 with (go_at_call 5; refine HAw.out.mono ?_; rintro e w2 ⟨rfl, hB2⟩)
  have HB2 := hide_ (below_to HB1.out hB2)
  have K2 := hide_ (K1.out.later hB2)
  have HD := hide_ (encoder_any aT cT T aR cR R w2 hTl hRl hL (hide_ (hT.out.later HB2.out)) (hide_ (hR.out.later HB2.out)))
  have s0 := K2.out.cell 0; have s1 := K2.out.cell 1
  simp at s0 s1
  clear hB2 HAw HB1 K1
  go_wp2_with fail
  refine HD.out.mono ?_
  rintro e w3 ⟨vC, vE, rfl, HC3, HE3, hB3⟩
  obtain ⟨ac, cc, rfl, -, -, -⟩ := HC3.out.row
  obtain ⟨ae, ce, rfl, -, -, -⟩ := HE3.out.row
  obtain ⟨dA, hdA⟩ : ∃ d, decide (zA T R = 0) = d := ⟨_, rfl⟩
  rw [hdA]
  clear hdA
  obtain ⟨w4, hw4⟩ : ∃ wx, wx = w3.alloc (.cells #[.bool dA, .slice ac (zX T R).length cc, .slice ae (zY T R).length ce] 30) := ⟨_, rfl⟩
  have hB4 : Below w3.heap.size w3 w4 := by rw [hw4]; exact below1 _ _
  have KP4 : Hid (Blk w4 w3.heap.size 30 [.bool dA, .slice ac (zX T R).length cc, .slice ae (zY T R).length ce]) := hide_ (by rw [hw4]; exact Blk.newA w3 _ _)
  have HC4 := hide_ (HC3.out.later hB4)
  have HE4 := hide_ (HE3.out.later hB4)
  have K4 := hide_ (K2.out.later (below_to hB3 hB4))
  have HB4 := hide_ (below_to HB2.out (below_to hB3 hB4))
  clear HD hB3 hB4 HC3 HE3 s0 s1 K2 HB2
  go_upto_region 4 with fail
  rw [← hw4]
  clear hw4
  obtain ⟨g3, hg3⟩ : ∃ g, g = w3.heap.size := ⟨_, rfl⟩
  rw [← hg3] at KP4 ⊢
  clear hg3
  by_cases hA : zA T R = 0
  case neg =>
    have hA' : (zA T R != 0) = true := by simpa using hA
    generalize zA T R = eA at *
    go_wp2_with fail
    go_ret
    exact ⟨rfl, HB4.out⟩
  have HX4 : Hid (zX T R = zC T (extL T) T.length ∧ zY T R = zE T (extL T) T.length) := hide_ (by unfold zX zY; rw [if_pos hA, if_pos hA]; exact ⟨rfl, rfl⟩)
  have HF := hide_ (fun k (hk : k ≤ T.length) => z_front hA hk)
  have HLm : Hid ((zC T (extL T) T.length).length ≤ 1048576) := hide_ (zA_ok hA).2.2
  rw [hA]
  rw [HX4.out.1] at HC4 KP4
  rw [HX4.out.2] at HE4 KP4
  simp only [zE_len] at KP4
  rw [show (zY T R).length = T.length by rw [HX4.out.2, zE_len]]
  rw [zE_len] at HE4
  rw [HX4.out.1]
  clear HX4 hA
  generalize extL T = X at *
  have hTC := zC_len2 T X T.length
  have hm20 : T.length ≤ 1048576 := Nat.le_trans hTC HLm.out
  obtain ⟨lm, hlm⟩ : ∃ l, (zC T X T.length).length = l := ⟨_, rfl⟩
  have HLq := hide_ hlm
  rw [hlm] at HC4 KP4 HLm ⊢
  have HEa : Hid (∀ (i : Nat) (w' : World), i < T.length → Below w4.heap.size w4 w' → ∃ b o, ae = some ⟨b, o, none⟩ ∧ w'.cell? ⟨b, o + i, none⟩ = some (.int .i64 ((zC T X i).length : Int))) := hide_ (fun i w' hi hb => by
    obtain ⟨b2, o2, e2, -, h2⟩ := (HE4.out.later hb).rowS.open (by rw [zE_len]; omega)
    refine ⟨b2, o2, e2, ?_⟩
    have b0 := h2 i (by rw [zE_len]; omega)
    rw [List.getD, zE_at hi] at b0
    simpa using b0)
  have HCa : Hid (∀ (i : Nat) (x : In) (w' : World), (zC T X T.length)[i]? = some x → Below w4.heap.size w4 w' → ∃ b o, ac = some ⟨b, o, none⟩ ∧ ∀ j, j < 4 → w'.cell? ⟨b, o + i * 4 + j, none⟩ = (inc x)[j]?) := hide_ (fun i x w' hi hb => by
    obtain ⟨b2, o2, e2, -, h2⟩ := (HC4.out.later hb).rowS.open (by have := (List.getElem?_eq_some_iff.1 hi).1; omega)
    exact ⟨b2, o2, e2, h2 i x hi⟩)
  clear hlm hTC
  go_upto_region 6 with fail
  go_cut [40] from 21 to 40 (fun x40 wc => x40 = .bool false ∧ w4 = wc)
  case first =>
    have p2 := KP4.out.cell 2
    have s0 := K4.out.cell 0
    simp at p2 s0
    by_cases h0 : T.length = 0
    · have h0' : ((T.length : Int)) = 0 := by omega
      have h0'' : ¬ (0 : Int) < (T.length : Int) := by omega
      have hne : ((T.length : Int) != (T.length : Int)) = false := by simp
      clear h0
      go_wp2_with fail
      go_meet
      case rel => exact ⟨rfl, rfl⟩
    · have h0' : (0 : Int) < (T.length : Int) := by omega
      have hne : ((T.length : Int) != (T.length : Int)) = false := by simp
      obtain ⟨b, o, hae, c0⟩ := HEa.out 0 w4 (by omega) (Below.refl _ _)
      subst hae
      simp [zC] at c0
      clear h0
      go_wp2_with fail
      go_meet
      case rel => exact ⟨rfl, rfl⟩
  case rest =>
  obtain ⟨rfl, rfl⟩ := hcut
  go_upto_region 9 with fail
  go_loopw [7] (fun x7 wr => ∃ (i : Nat), 1 ≤ i ∧ i ≤ T.length + 1 ∧ x7 = .int .i64 (i : Int) ∧ Hid (Below w4.heap.size w4 wr)) (fun x7 _ => T.length + 1 - (intOf x7).toNat)
  case atStart => exact ⟨1, Nat.le_refl _, by omega, rfl, hide_ (Below.refl _ _)⟩
  case round =>
    obtain ⟨i, hi1, hi, rfl, HB⟩ := hrel
    generalize wr = wq at *
    have p1 := (KP4.out.later HB.out).cell 1; have p2 := (KP4.out.later HB.out).cell 2
    simp at p1 p2
    by_cases hlt : i < T.length
    · have hlt' : (i : Int) < (T.length : Int) := by omega
      have hlt1 : (i : Int) - 1 < (T.length : Int) := by omega
      obtain ⟨j, hj⟩ : ∃ j : Nat, i = j + 1 := ⟨i - 1, by omega⟩
      have hjT : (j : Int) < (T.length : Int) := by omega
      have hlq : (zC T X j).length < (zC T X i).length := by rw [hj]; exact zC_lt T X j
      obtain ⟨hz1, hz2⟩ := zC_at (T := T) (X := X) hi1 (Nat.le_of_lt hlt)
      have hle : (zC T X i).length ≤ 1048576 := by
        have := zC_mono T X i (T.length - i)
        rw [show i + (T.length - i) = T.length by omega] at this
        have := HLm.out
        have := HLq.out
        omega
      obtain ⟨lk, hlk⟩ : ∃ k : Nat, (zC T X i).length = k + 1 := ⟨(zC T X i).length - 1, by omega⟩
      rw [hlk, Nat.add_sub_cancel] at hz1
      have hlx : lk < lm := by
        have := (List.getElem?_eq_some_iff.1 hz1).1
        rw [HLq.out] at this
        exact this
      obtain ⟨b, o, hae, c1⟩ := HEa.out i wq hlt HB.out
      obtain ⟨b', o', hae', c0⟩ := HEa.out j wq (by omega) HB.out
      subst hae
      injection hae' with hae'
      injection hae' with e1 e2 _
      subst e1 e2
      obtain ⟨b3, o3, hac, c3⟩ := HCa.out _ _ wq hz1 HB.out
      subst hac
      have c4 := c3 0 (by decide)
      simp [inc] at c4
      generalize (zC T X i).length = li at *
      generalize (zC T X j).length = lj at *
      have hnle : ¬ (li : Int) ≤ (lj : Int) := by omega
      have hlkm : (lk : Int) < (lm : Int) := by omega
      have hwk : IntKind.i64.wrap ((li : Int) - 1) = (lk : Int) := by rw [show (li : Int) - 1 = (lk : Int) by omega]; exact i64w _ (by omega)
      have hwj : IntKind.i64.wrap ((i : Int) - 1) = (j : Int) := by rw [show (i : Int) - 1 = (j : Int) by omega]; exact i64w _ (by omega)
      clear hj hlk hlq hlt1
      clear c3 hz1 hz2
      go_upto_region 11 with fail
      go_quiet (fail)
      have HBq : ∀ k, Hid (Below w4.heap.size w4 (wq.drewN k)) := fun k => hide_ (below_drewN HB.out k)
      go_wp2_with fail
      go_roundw
      case rel => exact ⟨i + 1, by omega, by omega, by go_num, HBq _⟩
      case measure => simp [intOf]; omega
    · have hlt' : ¬ (i : Int) < (T.length : Int) := by omega
      clear hlt hi1 hi
      go_upto_region 13 with fail
      clear p1 p2
      have KS := hide_ (K4.out.later HB.out)
      go_cut [8] from 74 to 84 (fun x8 wc => ∃ q : Nat, x8 = .int .i64 (q : Int) ∧ q ≤ T.length ∧ wq = wc)
      case first =>
        have s0 := KS.out.cell 0
        simp at s0
        have hz : ((T.length : Int) + 1 == 0) = false := by rw [beq_eq_false_iff_ne]; omega
        have hwT : IntKind.i64.wrap ((T.length : Int) + 1) = (T.length : Int) + 1 := i64w _ (by omega)
        obtain ⟨a, ha⟩ : ∃ a, IntKind.i64.wrap (nn + 1) = a := ⟨_, rfl⟩
        obtain ⟨b, hb⟩ : ∃ b, IntKind.i64.wrap (-a) = b := ⟨_, rfl⟩
        have hpos : 0 ≤ nn ∨ 0 ≤ b ∧ nn < b := by
          have h1 := ha
          have h2 := hb
          rw [IntKind.wrap_i64] at h1 h2
          omega
        by_cases hbn : nn < b
        · obtain ⟨q, hq1, hq2⟩ := rem_nat (a := b) T.length (by omega)
          clear hpos
          go_wp2_with fail
          go_meet
          case rel => exact ⟨q, by rw [← hq1], hq2, rfl⟩
        · obtain ⟨q, hq1, hq2⟩ := rem_nat (a := nn) T.length (by omega)
          clear hpos
          go_wp2_with fail
          go_meet
          case rel => exact ⟨q, by rw [← hq1], hq2, rfl⟩
      case rest =>
      obtain ⟨q, rfl, hq, rfl⟩ := hcut
      have hql : (T.take q).length = q := by rw [List.length_take]; omega
      have hBw := below_to HB4.out HB.out
      obtain ⟨F1, F2, F3⟩ := HF.out q hq
      have hd := encoder_any aT cT (T.take q) none 0 [] wq (by omega) (by simp) (hide_ ⟨by omega, fun t ht => hL.out.2 t (List.mem_of_mem_take ht)⟩) (hide_ ((hT.out.later hBw).front q)) (hide_ (.inl rfl))
      unfold EnTo at hd
      rw [hql, F1, F2, F3] at hd
      simp only [List.length_nil, decide_true] at hd
      have HD := hide_ hd
      have hcu := fun w' => cutTy aT T.length q cT (by omega) w'
      have s0 := KS.out.cell 0
      simp at s0
      have hmono := zC_mono T X q (T.length - q)
      have hpre := zC_front T X q (T.length - q)
      rw [show q + (T.length - q) = T.length by omega, HLq.out] at hmono
      rw [show q + (T.length - q) = T.length by omega] at hpre
      have HPre := hide_ hpre
      clear hd F1 F2 F3 hBw hql hpre
      go_wp2_with fail
      refine HD.out.mono ?_
      rintro e w5 ⟨vC5, vE5, rfl, HC5, HE5, hB5⟩
      obtain ⟨ac5, cc5, rfl, -, -, -⟩ := HC5.out.row
      obtain ⟨ae5, ce5, rfl, -, -, -⟩ := HE5.out.row
      rw [zE_len] at HE5 ⊢
      obtain ⟨lq, hlq⟩ : ∃ l, (zC T X q).length = l := ⟨_, rfl⟩
      have HLz := hide_ hlq
      rw [hlq] at HC5 hmono ⊢
      obtain ⟨w6, hw6⟩ : ∃ wx, wx = w5.alloc (.cells #[.bool true, .slice ac5 lq cc5, .slice ae5 q ce5] 30) := ⟨_, rfl⟩
      have hB6 : Below w5.heap.size w5 w6 := by rw [hw6]; exact below1 _ _
      have KQ6 : Hid (Blk w6 w5.heap.size 30 [.bool true, .slice ac5 lq cc5, .slice ae5 q ce5]) := hide_ (by rw [hw6]; exact Blk.newA w5 _ _)
      have HC6 := hide_ (HC5.out.later hB6)
      have HE6 := hide_ (HE5.out.later hB6)
      have HB46 := hide_ (below_to HB.out (below_to hB5 hB6))
      have KP6 := hide_ (KP4.out.later HB46.out)
      have HB6 := hide_ (below_to HB4.out HB46.out)
      clear HD hB5 hB6 HC5 HE5 s0 hcu hlq KS HB
      go_upto_region 15 with fail
      rw [← hw6]
      clear hw6
      obtain ⟨g5, hg5⟩ : ∃ g, g = w5.heap.size := ⟨_, rfl⟩
      rw [← hg5] at KQ6 ⊢
      clear hg5
      have hng : ¬ ((lm : Nat) : Int) < ((lq : Nat) : Int) := by omega
      have HEq : Hid (∀ (i : Nat) (w' : World), i < q → Below w6.heap.size w6 w' → ∃ b o, ae5 = some ⟨b, o, none⟩ ∧ w'.cell? ⟨b, o + i, none⟩ = some (.int .i64 ((zC T X i).length : Int))) := hide_ (fun i w' hi hb => by
        obtain ⟨b2, o2, e2, -, h2⟩ := (HE6.out.later hb).rowS.open (by rw [zE_len]; omega)
        refine ⟨b2, o2, e2, ?_⟩
        have b0 := h2 i (by rw [zE_len]; omega)
        rw [List.getD, zE_at hi] at b0
        simpa using b0)
      have HCq : Hid (∀ (i : Nat) (x : In) (w' : World), (zC T X q)[i]? = some x → Below w6.heap.size w6 w' → ∃ b o, ac5 = some ⟨b, o, none⟩ ∧ ∀ j, j < 4 → w'.cell? ⟨b, o + i * 4 + j, none⟩ = (inc x)[j]?) := hide_ (fun i x w' hi hb => by
        obtain ⟨b2, o2, e2, -, h2⟩ := (HC6.out.later hb).rowS.open (by have := (List.getElem?_eq_some_iff.1 hi).1; omega)
        exact ⟨b2, o2, e2, h2 i x hi⟩)
      go_cut [128] from 93 to 128 (fun x128 wc => ∃ wz, wz = wc ∧ x128 = .bool false ∧ Hid (Below w6.heap.size w6 wz))
      case first =>
        have p1 := KP6.out.cell 1; have p2 := KP6.out.cell 2; have r1 := KQ6.out.cell 1; have r2 := KQ6.out.cell 2
        simp at p1 p2 r1 r2
        have HBq : ∀ k, Hid (Below w6.heap.size w6 (w6.drewN k)) := fun k => hide_ (below_drewN (Below.refl _ _) k)
        have hne : ((q : Int) != (q : Int)) = false := by simp
        by_cases hqm : q < T.length
        · have hqm' : (q : Int) < (T.length : Int) := by omega
          obtain ⟨b2, o2, hae, b0⟩ := HEa.out q w6 hqm HB46.out
          subst hae
          rw [HLz.out] at b0
          have hne2 : ((lq : Int) != (lq : Int)) = false := by simp
          clear hqm
          go_quiet (fail)
          go_wp2_with fail
          go_meet
          case rel => exact ⟨_, rfl, rfl, HBq _⟩
        · have hqm' : ¬ (q : Int) < (T.length : Int) := by omega
          clear hqm
          go_quiet (fail)
          go_wp2_with fail
          go_meet
          case rel => exact ⟨_, rfl, rfl, HBq _⟩
      case rest =>
      obtain ⟨wz, hwz, rfl, HBz⟩ := hcut
      subst hwz
      go_upto_region 18 with fail
      go_loopw [10] (fun x10 wr => ∃ (i : Nat), i ≤ q ∧ x10 = .int .i64 (i : Int) ∧ Hid (Below w6.heap.size w6 wr)) (fun x10 _ => q - (intOf x10).toNat)
      case atStart => exact ⟨0, Nat.zero_le _, rfl, HBz⟩
      case round =>
        obtain ⟨i, hi, rfl, HB⟩ := hrel
        generalize wr = wy at *
        clear HBz
        by_cases hlt : i < q
        · have hlt' : (i : Int) < (q : Int) := by omega
          have hltm' : (i : Int) < (T.length : Int) := by omega
          have p2 := (KP6.out.later HB.out).cell 2; have r2 := (KQ6.out.later HB.out).cell 2
          simp at p2 r2
          obtain ⟨b1, o1, h1, a0⟩ := HEq.out i wy hlt HB.out
          obtain ⟨b2, o2, h2, b0⟩ := HEa.out i wy (by omega) (below_to HB46.out HB.out)
          subst h1 h2
          generalize (zC T X i).length = le at *
          have hne : ((le : Int) != (le : Int)) = false := by simp
          go_upto_region 20 with fail
          go_quiet (fail)
          have HBq : ∀ k, Hid (Below w6.heap.size w6 (wy.drewN k)) := fun k => hide_ (below_drewN HB.out k)
          go_wp2_with fail
          go_roundw
          case rel => exact ⟨i + 1, by omega, by go_num, HBq _⟩
          case measure => simp [intOf]; omega
        · obtain rfl : q = i := by omega
          clear hlt hi
          have HBy := HB
          go_upto_region 23 with fail
          go_loopw [11] (fun x11 wr => ∃ (i : Nat), i ≤ lq ∧ x11 = .int .i64 (i : Int) ∧ Hid (Below w6.heap.size w6 wr)) (fun x11 _ => lq - (intOf x11).toNat)
          case atStart => exact ⟨0, Nat.zero_le _, rfl, HBy⟩
          case round =>
            obtain ⟨i, hi, rfl, HB2⟩ := hrel
            generalize wr = wx at *
            clear HBy
            have p1 := (KP6.out.later HB2.out).cell 1; have r1 := (KQ6.out.later HB2.out).cell 1
            simp at p1 r1
            by_cases hlt : i < lq
            · have hlt' : (i : Int) < (lq : Int) := by omega
              have hlm20 : lm ≤ 1048576 := HLm.out
              have hltm' : (i : Int) < (lm : Int) := by omega
              obtain ⟨x, hx⟩ : ∃ x, (zC T X q)[i]? = some x := ⟨_, List.getElem?_eq_getElem (by rw [HLz.out]; exact hlt)⟩
              have hxm : (zC T X T.length)[i]? = some x := by
                obtain ⟨t, ht⟩ := HPre.out
                rw [← ht, List.getElem?_append_left (by rw [HLz.out]; exact hlt)]
                exact hx
              obtain ⟨b1, o1, e1, h1⟩ := HCq.out i x wx hx HB2.out
              obtain ⟨b2, o2, e2, h2⟩ := HCa.out i x wx hxm (below_to HB46.out HB2.out)
              subst e1 e2
              have a0 := h1 0 (by decide); have a1 := h1 1 (by decide); have a2 := h1 2 (by decide); have a3 := h1 3 (by decide)
              have b0 := h2 0 (by decide); have b1' := h2 1 (by decide); have b2' := h2 2 (by decide); have b3 := h2 3 (by decide)
              simp [inc] at a0 a1 a2 a3 b0 b1' b2' b3
              clear h1 h2 hx hxm
              go_upto_region 25 with fail
              go_quiet (fail)
              have HBq : ∀ k, Hid (Below w6.heap.size w6 (wx.drewN k)) := fun k => hide_ (below_drewN HB2.out k)
              go_wp2_with fail
              go_roundw
              case rel => exact ⟨i + 1, by omega, by go_num, HBq _⟩
              case measure => simp [intOf]; omega
            · obtain rfl : lq = i := by omega
              clear hlt hi
              have HBf := hide_ (below_to HB6.out HB2.out)
              go_wp2_with fail
              go_ret
              exact ⟨rfl, HBf.out⟩
end Go.Proofs.Ytncndgfaalojpaa
