import Derived.Test.YtcmkdkocponpiaaPart12
import Derived.Test.YtcmkdkocponpiaaPart01

/- mortiselaw22: num, rest, cut, right; mortiseref22: Own, Same. -/
namespace Go.Proofs.Ytcmkdkocponpiaa
open Go.RowKit
set_option linter.unusedVariables false

def restP (n m : Int) : Int := (n.tmod m + m).tmod m
theorem restP_in {n m : Int} (hm : 0 < m) : 0 ≤ restP n m ∧ restP n m < m := by
  unfold restP
  have h1 : -m < n.tmod m := by
    rcases Int.le_total 0 n with h | h
    · have := Int.tmod_nonneg m h; omega
    · have h2 : n.tmod m = -((-n).tmod m) := by rw [Int.neg_tmod, Int.neg_neg]
      have h3 := Int.tmod_lt_of_pos (-n) hm
      omega
  exact ⟨Int.tmod_nonneg m (by omega), Int.tmod_lt_of_pos _ hm⟩
set_option maxRecDepth 100000 in
set_option maxHeartbeats 4000000 in
theorem rest_any (n m : Int) (w : World) (hm : 0 < m) (hm2 : m ≤ 4611686018427387904) : Calls Try.prog 13 #[.int .i64 n, .int .i64 m] w fun e w' => e = .returned (.int .i64 (restP n m)) ∧ w = w' := by
  have hz : (m == 0) = false := by simp; omega
  have h1 : -m < n.tmod m ∧ n.tmod m < m := by
    rcases Int.le_total 0 n with h | h
    · have := Int.tmod_nonneg m h
      have := Int.tmod_lt_of_pos n hm
      omega
    · have h2 : n.tmod m = -((-n).tmod m) := by rw [Int.neg_tmod, Int.neg_neg]
      have h3 := Int.tmod_lt_of_pos (-n) hm
      have h4 := Int.tmod_nonneg m (show 0 ≤ -n by omega)
      omega
  obtain ⟨r, hr⟩ : ∃ r, restP n m = r := ⟨_, rfl⟩
  rw [hr]
  unfold restP at hr
  have h5 := restP_in (n := n) hm
  unfold restP at h5
  generalize hq : n.tmod m = q at *
  generalize hs : (q + m).tmod m = t at *
  have HR := hide_ hr
  have HQ := hide_ hq
  clear hr
  go_enter Try.func13, Try.ntmps13
  go_wp2
  go_ret
  exact ⟨by rw [← HR.out]; rfl, rfl⟩
theorem num_any (n : Int) (w : World) : Calls Try.prog 10 #[.int .i64 n] w fun e w' => e = .returned (.int .i64 n) ∧ w = w' := by
  go_enter Try.func10, Try.ntmps10
  go_wp2
  go_ret
  exact ⟨rfl, rfl⟩
/-! ### Own, Same -/
set_option maxRecDepth 100000 in
set_option maxHeartbeats 8000000 in
theorem own_any (f : Fr) (a : Option Addr) (c : Nat) (w : World) (hA : Hid (FrA w f a c)) (h48 : f.T.length ≤ 17592186044415) :
    Calls Try.prog 22 #[.agg #[.int .i64 f.r, .int .i64 f.a, .int .i64 f.b, .int .i64 f.e, .int .i64 f.n, .int .i64 f.x, .slice a f.T.length c]] w fun e w' => ∃ a' c', e = .returned (.agg #[.int .i64 f.r, .int .i64 f.a, .int .i64 f.b, .int .i64 f.e, .int .i64 f.n, .int .i64 f.x, .slice a' f.T.length c']) ∧ Hid (IOwn w' w.heap.size (.slice a' f.T.length c') f.T) ∧ Hid (Below w.heap.size w w') := by
  obtain ⟨wa, hwa⟩ : ∃ wx, wx = (w.alloc (.cells #[.int .i64 f.r, .int .i64 f.a, .int .i64 f.b, .int .i64 f.e, .int .i64 f.n, .int .i64 f.x, .slice a f.T.length c] 39)).alloc (.cells #[.int .i64 0, .int .i64 0, .int .i64 0, .int .i64 0, .int .i64 0, .int .i64 0, .slice none 0 0] 39) := ⟨_, rfl⟩
  have hB : Below w.heap.size w wa := by rw [hwa]; exact below2 _ _ _
  obtain ⟨k1, k2⟩ : Blk wa w.heap.size 39 (frc (f, .slice a f.T.length c)) ∧ Blk wa (w.heap.size + 1) 39 (frc frz) := by rw [hwa]; exact blk2 w _ _ _ _
  have n2' : ¬ w.heap.size + 1 = w.heap.size := by omega
  have hA1 := hA.out.later hB
  obtain ⟨v2, w2, hr, ho, hg⟩ := run_copy elI wa 37 w.heap.size a f.T.length c f.T rfl hA1.1 hA1.2.1 hA1.2.2 (by omega) hB.size
  have hBg : Below wa.heap.size wa w2 := (Upd.refl (fun _ => False) wa).grown hg (fun k hk => by cases hk) |>.below _ (Nat.le_refl _) (fun k hk => hk.elim)
  obtain ⟨a2, c2, rfl, -⟩ := own_open ho rfl
  have hk1 := k1.later hBg
  have hk2 := k2.later hBg
  have m1 := hk1.set 6 (.slice a2 f.T.length c2)
  have m2 := hk2.other ⟨w.heap.size, 6, none⟩ (.slice a2 f.T.length c2) n2'
  have HO : Hid (IOwn w2 w.heap.size (.slice a2 f.T.length c2) f.T) := hide_ ho
  have HB : Hid (Below w.heap.size w (w2.setCell ⟨w.heap.size, 6, none⟩ (.slice a2 f.T.length c2))) := hide_ (below_set (below_to hB hBg) _ _ _ (Nat.le_refl _))
  have HO3 : Hid (IOwn (w2.setCell ⟨w.heap.size, 6, none⟩ (.slice a2 f.T.length c2)) w.heap.size (.slice a2 f.T.length c2) f.T) := hide_ (HO.out.upd ((Upd.refl (fun k => k = w.heap.size) w2).set _ _ (.inl rfl)) (fun k hk e => by subst e; exact HO.out.notF hk1 (by decide) hk))
  have HM := hide_ m2
  have i6 := k1.cell 6
  have i6' := hk1.cell 6; have z6 := hk1.frozen 6
  have j0 := m1.cell 0; have j1 := m1.cell 1; have j2 := m1.cell 2; have j3 := m1.cell 3; have j4 := m1.cell 4; have j5 := m1.cell 5; have j6 := m1.cell 6
  have l0 := m2.cell 0; have l1 := m2.cell 1; have l2 := m2.cell 2; have l3 := m2.cell 3; have l4 := m2.cell 4; have l5 := m2.cell 5; have l6 := m2.cell 6
  have y0 := m2.frozen 0; have y1 := m2.frozen 1; have y2 := m2.frozen 2; have y3 := m2.frozen 3; have y4 := m2.frozen 4; have y5 := m2.frozen 5; have y6 := m2.frozen 6
  simp [frc, frz, fr0] at j0 j1 j2 j3 j4 j5 j6 i6 i6' l0 l1 l2 l3 l4 l5 l6
  have HR := hide_ hr
  clear k1 k2 hA hA1 ho hg hB hBg hk1 hk2 m1 m2 hr
  go_enter Try.func22, Try.ntmps22
  go_upto_region 1 with fail
  rw [← hwa]
  clear hwa
  go_wp2_with (first | (at_builtin; refine wpList_append_run rfl (.const (.slice none 0 0)) (.tmp 4) 37 37 rfl rfl rfl HR.out ?_) | fail)
  have hs7 := upd7 (w2.setCell ⟨w.heap.size, 6, none⟩ (.slice a2 f.T.length c2)) (w.heap.size + 1) 0 f (.slice a2 f.T.length c2)
  refine retF rfl f _ rfl (HM.out.set7 f (.slice a2 f.T.length c2)) ?_
  exact ⟨a2, c2, rfl, hide_ (HO3.out.upd hs7 (fun k hk e => by subst e; exact HO3.out.notF HM.out (by decide) hk)), hide_ (below7 HB.out _ _ _ _ (by omega))⟩
set_option maxRecDepth 100000 in
set_option maxHeartbeats 8000000 in
/-- Same of the same frames. -/
theorem same_yes (f : Fr) (a b : Option Addr) (c d : Nat) (w : World) (hA : Hid (FrA w f a c)) (hB : Hid (FrA w f b d)) :
    Calls Try.prog 15 #[.agg #[.int .i64 f.r, .int .i64 f.a, .int .i64 f.b, .int .i64 f.e, .int .i64 f.n, .int .i64 f.x, .slice a f.T.length c], .agg #[.int .i64 f.r, .int .i64 f.a, .int .i64 f.b, .int .i64 f.e, .int .i64 f.n, .int .i64 f.x, .slice b f.T.length d]] w fun e w' => e = .returned (.bool true) ∧ Below w.heap.size w w' := by
  obtain ⟨wa, hwa⟩ : ∃ wx, wx = (w.alloc (.cells #[.int .i64 f.r, .int .i64 f.a, .int .i64 f.b, .int .i64 f.e, .int .i64 f.n, .int .i64 f.x, .slice a f.T.length c] 39)).alloc (.cells #[.int .i64 f.r, .int .i64 f.a, .int .i64 f.b, .int .i64 f.e, .int .i64 f.n, .int .i64 f.x, .slice b f.T.length d] 39) := ⟨_, rfl⟩
  have hBa : Below w.heap.size w wa := by rw [hwa]; exact below2 _ _ _
  obtain ⟨k1, k2⟩ : Blk wa w.heap.size 39 (frc (f, .slice a f.T.length c)) ∧ Blk wa (w.heap.size + 1) 39 (frc (f, .slice b f.T.length d)) := by rw [hwa]; exact blk2 w _ _ _ _
  have j0 := k1.cell 0; have j1 := k1.cell 1; have j2 := k1.cell 2; have j3 := k1.cell 3; have j4 := k1.cell 4; have j5 := k1.cell 5; have j6 := k1.cell 6
  have l0 := k2.cell 0; have l1 := k2.cell 1; have l2 := k2.cell 2; have l3 := k2.cell 3; have l4 := k2.cell 4; have l5 := k2.cell 5; have l6 := k2.cell 6
  simp [frc] at j0 j1 j2 j3 j4 j5 j6 l0 l1 l2 l3 l4 l5 l6
  have HRa := hide_ (hA.out.1.later hBa)
  have HRb := hide_ (hB.out.1.later hBa)
  have hml := hA.out.2.2
  unfold maxLen at hml
  have HBa := hide_ hBa
  clear k1 k2 hA hB hBa
  go_enter Try.func15, Try.ntmps15
  go_upto_region 1 with fail
  rw [← hwa]
  clear hwa
  go_wp2_with fail
  go_loopw [5] (fun x5 wr => ∃ (i q : Nat), i ≤ f.T.length ∧ x5 = .int .i64 (i : Int) ∧ Hid (wr = wa.drewN q)) (fun x5 _ => f.T.length - (intOf x5).toNat)
  case atStart => exact ⟨0, 0, Nat.zero_le _, rfl, hide_ rfl⟩
  case round =>
    obtain ⟨i, q, hi, rfl, HW⟩ := hrel
    have hwr := HW.out
    subst hwr
    by_cases hlt : i < f.T.length
    · have hlt' : (i : Int) < f.T.length := by omega
      obtain ⟨ba, oa, rfl, -, hca⟩ := HRa.out.open (show 0 < f.T.length by omega)
      obtain ⟨bb, ob, rfl, -, hcb⟩ := HRb.out.open (show 0 < f.T.length by omega)
      have ca := hca i hlt
      have cb := hcb i hlt
      obtain ⟨x, hx⟩ : ∃ x, f.T.getD i 0 = x := ⟨_, rfl⟩
      rw [hx] at ca cb
      have hxx : (x != x) = false := by simp
      clear hca hcb hx
      go_wp2_with fail
      go_region
      go_wp2_with fail
      go_roundw
      case rel => exact ⟨i + 1, q + 1, by omega, by go_num, hide_ rfl⟩
      case measure => simp [intOf]; omega
    · obtain rfl : i = f.T.length := by omega
      go_wp2_with fail
      go_ret
      exact ⟨rfl, below_drewN HBa.out _⟩
/-! ### cut, right -/
def rgt (f : Fr) : Fr := ⟨restP f.r 4611686018427387904, restP f.a 4611686018427387904, restP f.b 4611686018427387904, restP f.e 4611686018427387904 - 1, restP f.n 4611686018427387904 - 1, restP f.x 4611686018427387904, (f.T.take 300).map (fun y => restP y 4611686018427387904)⟩
theorem rgt_ok (f : Fr) : frB (rgt f) = true := by
  have hr : ∀ n : Int, 0 ≤ restP n 4611686018427387904 ∧ restP n 4611686018427387904 < 4611686018427387904 := fun n => restP_in (by decide)
  refine frB_of ?_ (fun y hy => ?_) ?_
  · simp only [rgt, List.length_map, List.length_take]; omega
  · obtain ⟨z, _, rfl⟩ := List.mem_map.1 hy
    have := hr z
    exact posB_of (by omega) (by omega)
  · have h1 := hr f.r; have h2 := hr f.a; have h3 := hr f.b; have h4 := hr f.e; have h5 := hr f.n; have h6 := hr f.x
    unfold hdB
    simp only [rgt]
    rw [posB_of h1.1 (by omega), posB_of h2.1 (by omega), posB_of h3.1 (by omega), ponB_of (by omega) (by omega), ponB_of (by omega) (by omega), posB_of h6.1 (by omega)]
    rfl
def ctf (f : Fr) : Fr := ⟨f.r, f.a, f.b, f.e, f.n, f.x, f.T.take 300⟩
set_option maxRecDepth 100000 in
set_option maxHeartbeats 8000000 in
theorem cut_any (f : Fr) (a : Option Addr) (c : Nat) (w : World) (hA : Hid (FrA w f a c)) (hcap : f.T.length ≤ c) (hcm : c ≤ 9223372036854775807) :
    Calls Try.prog 36 #[.agg #[.int .i64 f.r, .int .i64 f.a, .int .i64 f.b, .int .i64 f.e, .int .i64 f.n, .int .i64 f.x, .slice a f.T.length c]] w fun e w' => e = .returned (.agg #[.int .i64 f.r, .int .i64 f.a, .int .i64 f.b, .int .i64 f.e, .int .i64 f.n, .int .i64 f.x, .slice a (f.T.take 300).length c]) ∧ Below w.heap.size w w' := by
  obtain ⟨wa, hwa⟩ : ∃ wx, wx = (w.alloc (.cells #[.int .i64 f.r, .int .i64 f.a, .int .i64 f.b, .int .i64 f.e, .int .i64 f.n, .int .i64 f.x, .slice a f.T.length c] 39)).alloc (.cells #[.int .i64 0, .int .i64 0, .int .i64 0, .int .i64 0, .int .i64 0, .int .i64 0, .slice none 0 0] 39) := ⟨_, rfl⟩
  have hB : Below w.heap.size w wa := by rw [hwa]; exact below2 _ _ _
  obtain ⟨k1, k2⟩ : Blk wa w.heap.size 39 (frc (f, .slice a f.T.length c)) ∧ Blk wa (w.heap.size + 1) 39 (frc frz) := by rw [hwa]; exact blk2 w _ _ _ _
  have n2' : ¬ w.heap.size + 1 = w.heap.size := by omega
  have HB := hide_ hB
  by_cases hl : f.T.length ≤ 300
  · have HTk : Hid ((f.T.take 300).length = f.T.length) := hide_ (by rw [List.length_take]; omega)
    rw [HTk.out]
    have HK := hide_ k2
    have j0 := k1.cell 0; have j1 := k1.cell 1; have j2 := k1.cell 2; have j3 := k1.cell 3; have j4 := k1.cell 4; have j5 := k1.cell 5; have j6 := k1.cell 6
    have l0 := k2.cell 0; have l1 := k2.cell 1; have l2 := k2.cell 2; have l3 := k2.cell 3; have l4 := k2.cell 4; have l5 := k2.cell 5; have l6 := k2.cell 6
    have y0 := k2.frozen 0; have y1 := k2.frozen 1; have y2 := k2.frozen 2; have y3 := k2.frozen 3; have y4 := k2.frozen 4; have y5 := k2.frozen 5; have y6 := k2.frozen 6
    simp [frc, frz, fr0] at j0 j1 j2 j3 j4 j5 j6 l0 l1 l2 l3 l4 l5 l6
    clear k1 k2 hA hB
    go_enter Try.func36, Try.ntmps36
    go_upto_region 1 with fail
    rw [← hwa]
    clear hwa
    go_wp2_with fail
    refine retF rfl f _ rfl (HK.out.set7 f (.slice a f.T.length c)) ?_
    exact ⟨rfl, below7 HB.out _ _ _ _ (by omega)⟩
  · have HTk : Hid ((f.T.take 300).length = 300) := hide_ (by rw [List.length_take]; omega)
    rw [HTk.out]
    have hgt : (300 : Int) < (f.T.length : Int) := by omega
    have hc3 : 300 ≤ c := by omega
    have m1 := k1.set 6 (.slice a 300 c)
    have m2 := k2.other ⟨w.heap.size, 6, none⟩ (.slice a 300 c) n2'
    have HK := hide_ m2
    have i6 := k1.cell 6; have z6 := k1.frozen 6
    have j0 := m1.cell 0; have j1 := m1.cell 1; have j2 := m1.cell 2; have j3 := m1.cell 3; have j4 := m1.cell 4; have j5 := m1.cell 5; have j6 := m1.cell 6
    have l0 := m2.cell 0; have l1 := m2.cell 1; have l2 := m2.cell 2; have l3 := m2.cell 3; have l4 := m2.cell 4; have l5 := m2.cell 5; have l6 := m2.cell 6
    have y0 := m2.frozen 0; have y1 := m2.frozen 1; have y2 := m2.frozen 2; have y3 := m2.frozen 3; have y4 := m2.frozen 4; have y5 := m2.frozen 5; have y6 := m2.frozen 6
    simp [frc, frz, fr0] at i6 j0 j1 j2 j3 j4 j5 j6 l0 l1 l2 l3 l4 l5 l6
    clear k1 k2 hA hB m1 m2 hl
    go_enter Try.func36, Try.ntmps36
    go_upto_region 1 with fail
    rw [← hwa]
    clear hwa
    go_wp2_with fail
    refine retF rfl f _ rfl (HK.out.set7 f (.slice a 300 c)) ?_
    exact ⟨rfl, below7 (below_set HB.out _ _ _ (Nat.le_refl _)) _ _ _ _ (by omega)⟩
end Go.Proofs.Ytcmkdkocponpiaa

/- mortiselaw22: right. -/
namespace Go.Proofs.Ytcmkdkocponpiaa
open Go.RowKit
set_option linter.unusedVariables false

def hd0 (f : Fr) : Fr := ⟨restP f.r 4611686018427387904, restP f.a 4611686018427387904, restP f.b 4611686018427387904, restP f.e 4611686018427387904 - 1, restP f.n 4611686018427387904 - 1, restP f.x 4611686018427387904, []⟩
set_option maxRecDepth 100000 in
set_option maxHeartbeats 16000000 in
theorem rgt_any (f : Fr) (a : Option Addr) (c : Nat) (w : World) (hA : Hid (FrA w f a c)) (hcap : f.T.length ≤ c) (hcm : c ≤ 9223372036854775807) :
    Calls Try.prog 19 #[.agg #[.int .i64 f.r, .int .i64 f.a, .int .i64 f.b, .int .i64 f.e, .int .i64 f.n, .int .i64 f.x, .slice a f.T.length c]] w fun e w' => ∃ a' c', e = .returned (.agg #[.int .i64 (rgt f).r, .int .i64 (rgt f).a, .int .i64 (rgt f).b, .int .i64 (rgt f).e, .int .i64 (rgt f).n, .int .i64 (rgt f).x, .slice a' (rgt f).T.length c']) ∧ Hid (IOwn w' w.heap.size (.slice a' (rgt f).T.length c') (rgt f).T) ∧ Hid (Below w.heap.size w w') := by
  obtain ⟨wa, hwa⟩ : ∃ wx, wx = (w.alloc (.cells #[.int .i64 f.r, .int .i64 f.a, .int .i64 f.b, .int .i64 f.e, .int .i64 f.n, .int .i64 f.x, .slice a f.T.length c] 39)).alloc (.cells #[.int .i64 0, .int .i64 0, .int .i64 0, .int .i64 0, .int .i64 0, .int .i64 0, .slice none 0 0] 39) := ⟨_, rfl⟩
  have hB : Below w.heap.size w wa := by rw [hwa]; exact below2 _ _ _
  obtain ⟨k1, k2⟩ : Blk wa w.heap.size 39 (frc (f, .slice a f.T.length c)) ∧ Blk wa (w.heap.size + 1) 39 (frc frz) := by rw [hwa]; exact blk2 w _ _ _ _
  have n1' : ¬ w.heap.size = w.heap.size + 1 := by omega
  have n2' : ¬ w.heap.size + 1 = w.heap.size := by omega
  have HCt := hide_ (cut_any f a c wa (hide_ (hA.out.later hB)) hcap hcm)
  obtain ⟨TT, hTT⟩ : ∃ TT, f.T.take 300 = TT := ⟨_, rfl⟩
  rw [hTT] at HCt
  have HTT := hide_ hTT
  have HRow : Hid (∀ w', Below w.heap.size w w' → Row .i64 w' a TT) := hide_ (fun w' hb => by rw [← hTT]; exact (hA.out.1.later hb).take 300)
  have hTl : TT.length ≤ 300 := by rw [← hTT, List.length_take]; omega
  have HK1 := hide_ k1
  have HK2 := hide_ k2
  have HB := hide_ hB
  have j0 := k1.cell 0; have j1 := k1.cell 1; have j2 := k1.cell 2; have j3 := k1.cell 3; have j4 := k1.cell 4; have j5 := k1.cell 5; have j6 := k1.cell 6
  simp [frc] at j0 j1 j2 j3 j4 j5 j6
  have HRest : Hid (∀ (n : Int) (w' : World), Calls Try.prog 13 #[.int .i64 n, .int .i64 4611686018427387904] w' fun e w'' => e = .returned (.int .i64 (restP n 4611686018427387904)) ∧ w' = w'') := hide_ (fun n w' => rest_any n 4611686018427387904 w' (by decide) (by decide))
  have hr := fun n : Int => (restP_in (n := n) (m := 4611686018427387904) (by decide))
  have we := i64w (restP f.e 4611686018427387904 - 1) (by have := hr f.e; omega)
  have wn := i64w (restP f.n 4611686018427387904 - 1) (by have := hr f.n; omega)
  clear k1 k2 hA hB hTT hr
  go_enter Try.func19, Try.ntmps19
  go_upto_region 1 with fail
  rw [← hwa]
  clear hwa
  go_wp2_with fail
  refine HCt.out.mono ?_
  rintro e w2 ⟨rfl, hB2⟩
  have hk1 := HK1.out.later hB2
  have i0 := hk1.cell 0; have i1 := hk1.cell 1; have i2 := hk1.cell 2; have i3 := hk1.cell 3; have i4 := hk1.cell 4; have i5 := hk1.cell 5; have i6 := hk1.cell 6
  have y0 := hk1.frozen 0; have y1 := hk1.frozen 1; have y2 := hk1.frozen 2; have y3 := hk1.frozen 3; have y4 := hk1.frozen 4; have y5 := hk1.frozen 5; have y6 := hk1.frozen 6
  simp [frc] at i0 i1 i2 i3 i4 i5 i6
  have hs7 := upd7 w2 w.heap.size 0 f (.slice a TT.length c)
  have hk3 := hk1.set7 f (.slice a TT.length c)
  have hk4 := (HK2.out.later hB2).upd hs7 n2'
  have hb3 := below7 (below_to HB.out hB2) w.heap.size 0 f (.slice a TT.length c) (Nat.le_refl _)
  obtain ⟨w3, hw3⟩ : ∃ w3, w3 = set7 w2 w.heap.size 0 f (.slice a TT.length c) := ⟨_, rfl⟩
  rw [← hw3] at hk3 hk4 hb3
  have HK3 := hide_ hk3
  have HK4 := hide_ hk4
  have HB3 := hide_ hb3
  clear j0 j1 j2 j3 j4 j5 j6 hk1 hs7 hk3 hk4 hb3 hB2
  go_upto_region 2 with fail
  rw [s7, ← hw3]
  clear hw3 i0 i1 i2 i3 i4 i5 i6 y0 y1 y2 y3 y4 y5 y6
  have HSS : Hid (∀ w', Below w3.heap.size w3 w' → (fun w' => w'.cell? ⟨w.heap.size, 0, none⟩ = some (.int .i64 f.r) ∧ w'.cell? ⟨w.heap.size, 1, none⟩ = some (.int .i64 f.a) ∧ w'.cell? ⟨w.heap.size, 2, none⟩ = some (.int .i64 f.b) ∧ w'.cell? ⟨w.heap.size, 3, none⟩ = some (.int .i64 f.e) ∧ w'.cell? ⟨w.heap.size, 4, none⟩ = some (.int .i64 f.n) ∧ w'.cell? ⟨w.heap.size, 5, none⟩ = some (.int .i64 f.x) ∧ w'.cell? ⟨w.heap.size, 6, none⟩ = some (.slice a TT.length c)) w') := hide_ (fun w' hb => by
    have k := HK3.out.later hb
    exact ⟨k.cell 0, k.cell 1, k.cell 2, k.cell 3, k.cell 4, k.cell 5, k.cell 6⟩)
  refine wp_region_last 22 (fun w' => w'.cell? ⟨w.heap.size, 0, none⟩ = some (.int .i64 f.r) ∧ w'.cell? ⟨w.heap.size, 1, none⟩ = some (.int .i64 f.a) ∧ w'.cell? ⟨w.heap.size, 2, none⟩ = some (.int .i64 f.b) ∧ w'.cell? ⟨w.heap.size, 3, none⟩ = some (.int .i64 f.e) ∧ w'.cell? ⟨w.heap.size, 4, none⟩ = some (.int .i64 f.n) ∧ w'.cell? ⟨w.heap.size, 5, none⟩ = some (.int .i64 f.x) ∧ w'.cell? ⟨w.heap.size, 6, none⟩ = some (.slice a TT.length c)) (by kernel_rfl) (HSS.out _ ((Below.refl w3.heap.size w3).drew)) (fun hHeld => ?_)
  refine wpAnyF_take [22] (by kernel_rfl) (i := 0) (v := ?vf1) rfl (by kernel_rfl) (by kernel_rfl) (by kernel_rfl) (fun _ _ _ h => h) (Or.inl ⟨by kernel_rfl, ?hyf1⟩) hHeld ?restf1
  case hyf1 => intro w' hSw; (try dsimp only at hSw); go_simp; try with_reducible rfl
  simp only [Act.put]
  try dsimp only
  refine wpAnyF_take [22] (by kernel_rfl) (i := 1) (v := ?vf2) rfl (by kernel_rfl) (by kernel_rfl) (by kernel_rfl) (fun _ _ _ h => h) (Or.inl ⟨by kernel_rfl, ?hyf2⟩) hHeld ?restf2
  case hyf2 => intro w' hSw; (try dsimp only at hSw); go_simp; try with_reducible rfl
  simp only [Act.put]
  try dsimp only
  refine wpAnyF_takeC [22] (by kernel_rfl) (i := 2) (v := .int .i64 (restP f.r 4611686018427387904)) rfl (by kernel_rfl) (by kernel_rfl) (by kernel_rfl) (fun _ _ _ h => h) ⟨by kernel_rfl, _, #[.int .i64 f.r, .int .i64 4611686018427387904], fun w' hSw => ⟨by (try dsimp only at hSw); go_simp; try rfl, HRest.out f.r w'⟩⟩ hHeld ?_
  simp only [Act.put]
  try dsimp only
  refine wpAnyF_take [22] (by kernel_rfl) (i := 3) (v := ?vf3) rfl (by kernel_rfl) (by kernel_rfl) (by kernel_rfl) (fun _ _ _ h => h) (Or.inl ⟨by kernel_rfl, ?hyf3⟩) hHeld ?restf3
  case hyf3 => intro w' hSw; (try dsimp only at hSw); go_simp; try with_reducible rfl
  simp only [Act.put]
  try dsimp only
  refine wpAnyF_take [22] (by kernel_rfl) (i := 4) (v := ?vf4) rfl (by kernel_rfl) (by kernel_rfl) (by kernel_rfl) (fun _ _ _ h => h) (Or.inl ⟨by kernel_rfl, ?hyf4⟩) hHeld ?restf4
  case hyf4 => intro w' hSw; (try dsimp only at hSw); go_simp; try with_reducible rfl
  simp only [Act.put]
  try dsimp only
  refine wpAnyF_takeC [22] (by kernel_rfl) (i := 5) (v := .int .i64 (restP f.a 4611686018427387904)) rfl (by kernel_rfl) (by kernel_rfl) (by kernel_rfl) (fun _ _ _ h => h) ⟨by kernel_rfl, _, #[.int .i64 f.a, .int .i64 4611686018427387904], fun w' hSw => ⟨by (try dsimp only at hSw); go_simp; try rfl, HRest.out f.a w'⟩⟩ hHeld ?_
  simp only [Act.put]
  try dsimp only
  refine wpAnyF_take [22] (by kernel_rfl) (i := 6) (v := ?vf5) rfl (by kernel_rfl) (by kernel_rfl) (by kernel_rfl) (fun _ _ _ h => h) (Or.inl ⟨by kernel_rfl, ?hyf5⟩) hHeld ?restf5
  case hyf5 => intro w' hSw; (try dsimp only at hSw); go_simp; try with_reducible rfl
  simp only [Act.put]
  try dsimp only
  refine wpAnyF_take [22] (by kernel_rfl) (i := 7) (v := ?vf6) rfl (by kernel_rfl) (by kernel_rfl) (by kernel_rfl) (fun _ _ _ h => h) (Or.inl ⟨by kernel_rfl, ?hyf6⟩) hHeld ?restf6
  case hyf6 => intro w' hSw; (try dsimp only at hSw); go_simp; try with_reducible rfl
  simp only [Act.put]
  try dsimp only
  refine wpAnyF_takeC [22] (by kernel_rfl) (i := 8) (v := .int .i64 (restP f.b 4611686018427387904)) rfl (by kernel_rfl) (by kernel_rfl) (by kernel_rfl) (fun _ _ _ h => h) ⟨by kernel_rfl, _, #[.int .i64 f.b, .int .i64 4611686018427387904], fun w' hSw => ⟨by (try dsimp only at hSw); go_simp; try rfl, HRest.out f.b w'⟩⟩ hHeld ?_
  simp only [Act.put]
  try dsimp only
  refine wpAnyF_take [22] (by kernel_rfl) (i := 9) (v := ?vf7) rfl (by kernel_rfl) (by kernel_rfl) (by kernel_rfl) (fun _ _ _ h => h) (Or.inl ⟨by kernel_rfl, ?hyf7⟩) hHeld ?restf7
  case hyf7 => intro w' hSw; (try dsimp only at hSw); go_simp; try with_reducible rfl
  simp only [Act.put]
  try dsimp only
  refine wpAnyF_take [22] (by kernel_rfl) (i := 10) (v := ?vf8) rfl (by kernel_rfl) (by kernel_rfl) (by kernel_rfl) (fun _ _ _ h => h) (Or.inl ⟨by kernel_rfl, ?hyf8⟩) hHeld ?restf8
  case hyf8 => intro w' hSw; (try dsimp only at hSw); go_simp; try with_reducible rfl
  simp only [Act.put]
  try dsimp only
  refine wpAnyF_takeC [22] (by kernel_rfl) (i := 11) (v := .int .i64 (restP f.e 4611686018427387904)) rfl (by kernel_rfl) (by kernel_rfl) (by kernel_rfl) (fun _ _ _ h => h) ⟨by kernel_rfl, _, #[.int .i64 f.e, .int .i64 4611686018427387904], fun w' hSw => ⟨by (try dsimp only at hSw); go_simp; try rfl, HRest.out f.e w'⟩⟩ hHeld ?_
  simp only [Act.put]
  try dsimp only
  refine wpAnyF_take [22] (by kernel_rfl) (i := 12) (v := ?vf9) rfl (by kernel_rfl) (by kernel_rfl) (by kernel_rfl) (fun _ _ _ h => h) (Or.inl ⟨by kernel_rfl, ?hyf9⟩) hHeld ?restf9
  case hyf9 => intro w' hSw; (try dsimp only at hSw); go_simp; try with_reducible rfl
  simp only [Act.put]
  try dsimp only
  refine wpAnyF_take [22] (by kernel_rfl) (i := 13) (v := ?vf10) rfl (by kernel_rfl) (by kernel_rfl) (by kernel_rfl) (fun _ _ _ h => h) (Or.inl ⟨by kernel_rfl, ?hyf10⟩) hHeld ?restf10
  case hyf10 => intro w' hSw; (try dsimp only at hSw); go_simp; try with_reducible rfl
  simp only [Act.put]
  try dsimp only
  refine wpAnyF_take [22] (by kernel_rfl) (i := 14) (v := ?vf11) rfl (by kernel_rfl) (by kernel_rfl) (by kernel_rfl) (fun _ _ _ h => h) (Or.inl ⟨by kernel_rfl, ?hyf11⟩) hHeld ?restf11
  case hyf11 => intro w' hSw; (try dsimp only at hSw); go_simp; try with_reducible rfl
  simp only [Act.put]
  try dsimp only
  refine wpAnyF_takeC [22] (by kernel_rfl) (i := 15) (v := .int .i64 (restP f.n 4611686018427387904)) rfl (by kernel_rfl) (by kernel_rfl) (by kernel_rfl) (fun _ _ _ h => h) ⟨by kernel_rfl, _, #[.int .i64 f.n, .int .i64 4611686018427387904], fun w' hSw => ⟨by (try dsimp only at hSw); go_simp; try rfl, HRest.out f.n w'⟩⟩ hHeld ?_
  simp only [Act.put]
  try dsimp only
  refine wpAnyF_take [22] (by kernel_rfl) (i := 16) (v := ?vf12) rfl (by kernel_rfl) (by kernel_rfl) (by kernel_rfl) (fun _ _ _ h => h) (Or.inl ⟨by kernel_rfl, ?hyf12⟩) hHeld ?restf12
  case hyf12 => intro w' hSw; (try dsimp only at hSw); go_simp; try with_reducible rfl
  simp only [Act.put]
  try dsimp only
  refine wpAnyF_take [22] (by kernel_rfl) (i := 17) (v := ?vf13) rfl (by kernel_rfl) (by kernel_rfl) (by kernel_rfl) (fun _ _ _ h => h) (Or.inl ⟨by kernel_rfl, ?hyf13⟩) hHeld ?restf13
  case hyf13 => intro w' hSw; (try dsimp only at hSw); go_simp; try with_reducible rfl
  simp only [Act.put]
  try dsimp only
  refine wpAnyF_take [22] (by kernel_rfl) (i := 18) (v := ?vf14) rfl (by kernel_rfl) (by kernel_rfl) (by kernel_rfl) (fun _ _ _ h => h) (Or.inl ⟨by kernel_rfl, ?hyf14⟩) hHeld ?restf14
  case hyf14 => intro w' hSw; (try dsimp only at hSw); go_simp; try with_reducible rfl
  simp only [Act.put]
  try dsimp only
  refine wpAnyF_takeC [22] (by kernel_rfl) (i := 19) (v := .int .i64 (restP f.x 4611686018427387904)) rfl (by kernel_rfl) (by kernel_rfl) (by kernel_rfl) (fun _ _ _ h => h) ⟨by kernel_rfl, _, #[.int .i64 f.x, .int .i64 4611686018427387904], fun w' hSw => ⟨by (try dsimp only at hSw); go_simp; try rfl, HRest.out f.x w'⟩⟩ hHeld ?_
  simp only [Act.put]
  try dsimp only
  refine wpAnyF_take [22] (by kernel_rfl) (i := 20) (v := ?vf15) rfl (by kernel_rfl) (by kernel_rfl) (by kernel_rfl) (fun _ _ _ h => h) (Or.inl ⟨by kernel_rfl, ?hyf15⟩) hHeld ?restf15
  case hyf15 => intro w' hSw; (try dsimp only at hSw); go_simp; try with_reducible rfl
  simp only [Act.put]
  try dsimp only
  refine wpAnyF_ready (rs := [21]) (by kernel_rfl) (by simp) ?_
  refine AllReadyF.cons rfl (fun K hK => ?_) AllReadyF.nil
  go_simp
  refine hK.out _ _ (HSS.out _ (below_to ((Below.refl w3.heap.size w3).drew) (below1 w3.drew _))) (fun hHeld => ?_)
  clear hK K
  refine wpAnyF_ready (rs := [22]) (by kernel_rfl) (by simp) ?_
  refine AllReadyF.last rfl (fun K hK => ?_)
  go_simp
  refine hK.out _ _ ?_
  clear hK K
  refine wpAnyF_done (by kernel_rfl) ?_ _
  have hBn : Below w3.heap.size w3 (w3.alloc (.cells #[.int .i64 (restP f.r 4611686018427387904), .int .i64 (restP f.a 4611686018427387904), .int .i64 (restP f.b 4611686018427387904), .int .i64 (restP f.e 4611686018427387904 - 1), .int .i64 (restP f.n 4611686018427387904 - 1), .int .i64 (restP f.x 4611686018427387904), .slice none 0 0] 39)).drew := (below1 w3 _).drew
  have hgf : Blk (w3.alloc (.cells #[.int .i64 (restP f.r 4611686018427387904), .int .i64 (restP f.a 4611686018427387904), .int .i64 (restP f.b 4611686018427387904), .int .i64 (restP f.e 4611686018427387904 - 1), .int .i64 (restP f.n 4611686018427387904 - 1), .int .i64 (restP f.x 4611686018427387904), .slice none 0 0] 39)).drew w3.heap.size 39 (frc (hd0 f, .slice none 0 0)) := (Blk.newA w3 _ _).drew
  obtain ⟨w5, hw5⟩ : ∃ w5, w5 = (w3.alloc (.cells #[.int .i64 (restP f.r 4611686018427387904), .int .i64 (restP f.a 4611686018427387904), .int .i64 (restP f.b 4611686018427387904), .int .i64 (restP f.e 4611686018427387904 - 1), .int .i64 (restP f.n 4611686018427387904 - 1), .int .i64 (restP f.x 4611686018427387904), .slice none 0 0] 39)).drew := ⟨_, rfl⟩
  rw [← hw5] at hBn hgf
  rw [← hw5]
  clear hw5
  have hs3 : w.heap.size + 1 < w3.heap.size := HK4.out.lt
  obtain ⟨gf, hgfe⟩ : ∃ gf, gf = w3.heap.size := ⟨_, rfl⟩
  rw [← hgfe] at hgf hs3
  rw [← hgfe]
  have HF5 := hide_ hgf
  have HA5 := hide_ (HK3.out.later hBn)
  have HZ5 := hide_ (HK4.out.later hBn)
  have HB5 := hide_ (below_to HB3.out hBn)
  clear hgf hBn hgfe HSS HK3 HK4 HB3 HK1 HK2 HB HCt hHeld
  go_wp2_with fail
  go_loopw [4] (fun x4 wr => ∃ (i : Nat) (U : List Int) (v : Value), i ≤ TT.length ∧ x4 = .int .i64 (i : Int) ∧ Hid (U = (TT.take i).map (fun y => restP y 4611686018427387904)) ∧ Hid (Blk wr gf 39 (frc (hd0 f, v))) ∧ Hid (IOwn wr w.heap.size v U) ∧ Hid (Blk wr w.heap.size 39 (frc (f, .slice a TT.length c))) ∧ Hid (Blk wr (w.heap.size + 1) 39 (frc frz)) ∧ Hid (Below w.heap.size w wr)) (fun x4 _ => TT.length - (intOf x4).toNat)
  case atStart => exact ⟨0, [], .slice none 0 0, Nat.zero_le _, rfl, hide_ rfl, HF5, hide_ (IOwn.nil _ _), HA5, HZ5, HB5⟩
  case round =>
    clear HF5 HA5 HZ5 HB5
    obtain ⟨i, U, v, hi, rfl, HU, HF, HI, HK, HZ, HB⟩ := hrel
    generalize wr = wq at *
    obtain ⟨av, cv, rfl⟩ := HI.out.slice
    have HUl : Hid (U.length = i) := hide_ (by rw [HU.out]; simp; omega)
    have k6 := HK.out.cell 6
    simp [frc] at k6
    by_cases hlt : i < TT.length
    · have hlt' : (i : Int) < TT.length := by omega
      obtain ⟨ba, oa, rfl, hba, hca⟩ := (HRow.out wq HB.out).open (show 0 < TT.length by omega)
      have hcx := hca i hlt
      obtain ⟨x, hx⟩ : ∃ x, TT.getD i 0 = x := ⟨_, rfl⟩
      rw [hx] at hcx
      have HNx : Hid (U ++ [restP x 4611686018427387904] = (TT.take (i + 1)).map (fun y => restP y 4611686018427387904)) := hide_ (by
        rw [List.take_succ_eq_append_getElem hlt, List.map_append, ← HU.out]
        rw [← hx]
        simp [List.getD, hlt])
      have hsq : w.heap.size ≤ wq.heap.size := HB.out.size
      obtain ⟨gT, capT, w5', hr, ho, hu, hgT⟩ := (HI.out.later ((Below.refl wq.heap.size wq).drew)).push (restP x 4611686018427387904) (by have := HUl.out; omega) (show w.heap.size ≤ wq.drew.heap.size from hsq)
      have HAp := hide_ hr
      have HI5 := hide_ ho
      have hvl : ∀ k, (Value.slice av U.length cv).ownBlock = some k → w.heap.size ≤ k := fun k hk => (HI.out.lies hk).1
      have HF5 := hide_ ((HF.out.drew).upd hu (fun e => HI.out.notF HF.out (by decide) e))
      have HK5 := hide_ ((HK.out.drew).upd hu (fun e => HI.out.notF HK.out (by decide) e))
      have HZ5 := hide_ ((HZ.out.drew).upd hu (fun e => HI.out.notF HZ.out (by decide) e))
      have HB5 := hide_ (below_to HB.out ((Below.refl wq.heap.size wq).drew) |>.trans (hu.below w.heap.size hsq hvl))
      have HCx : Hid (wq.cell? ⟨ba, oa + i, none⟩ = some (.int .i64 x)) := hide_ hcx
      have hcx5 : w5'.cell? ⟨ba, oa + i, none⟩ = some (.int .i64 x) := by
        have h := HRow.out w5' HB5.out
        obtain ⟨b2, o2, e2, -, h2⟩ := h.open (show 0 < TT.length by omega)
        injection e2 with e2
        injection e2 with e3 e4 _
        subst e3 e4
        rw [← hx]
        exact h2 i hlt
      have HS1 : Hid ((fun w' => w'.cell? ⟨gf, 6, none⟩ = some (.slice av U.length cv) ∧ w'.cell? ⟨w.heap.size, 6, none⟩ = some (.slice (some ⟨ba, oa, none⟩) TT.length c) ∧ w'.cell? ⟨ba, oa + i, none⟩ = some (.int .i64 x)) wq.drew) := hide_ ⟨HF.out.drew.cell 6, HK.out.drew.cell 6, hcx⟩
      have HS4 : Hid ((fun w' => w'.cell? ⟨gf, 6, none⟩ = some (.slice av U.length cv) ∧ w'.cell? ⟨w.heap.size, 6, none⟩ = some (.slice (some ⟨ba, oa, none⟩) TT.length c) ∧ w'.cell? ⟨ba, oa + i, none⟩ = some (.int .i64 x)) (wq.drew.alloc (.cells #[.int .i64 (restP x 4611686018427387904)] 3))) := hide_ ⟨(HF.out.drew.alloc _).cell 6, (HK.out.drew.alloc _).cell 6, (cell_al wq.drew _ _ _ hba).trans hcx⟩
      have HS5 : Hid ((fun w' => w'.cell? ⟨gf, 6, none⟩ = some (.slice av U.length cv) ∧ w'.cell? ⟨w.heap.size, 6, none⟩ = some (.slice (some ⟨ba, oa, none⟩) TT.length c) ∧ w'.cell? ⟨ba, oa + i, none⟩ = some (.int .i64 x)) w5') := hide_ ⟨HF5.out.cell 6, HK5.out.cell 6, hcx5⟩
      clear hca hx hr ho hu hgT hvl hcx5 k6
      have k6 := HK.out.cell 6
      simp [frc] at k6
      go_wp2_with fail
      refine wp_region_last 11 (fun w' => w'.cell? ⟨gf, 6, none⟩ = some (.slice av U.length cv) ∧ w'.cell? ⟨w.heap.size, 6, none⟩ = some (.slice (some ⟨ba, oa, none⟩) TT.length c) ∧ w'.cell? ⟨ba, oa + i, none⟩ = some (.int .i64 x)) (by kernel_rfl) (HS1.out) (fun hHeld => ?_)
      refine wpAnyF_take [11] (by kernel_rfl) (i := 0) (v := ?vg1) rfl (by kernel_rfl) (by kernel_rfl) (by kernel_rfl) (fun _ _ _ h => h) (Or.inl ⟨by kernel_rfl, ?hyg1⟩) hHeld ?restg1
      case hyg1 => intro w' hSw; (try dsimp only at hSw); go_simp; try with_reducible rfl
      simp only [Act.put]
      try dsimp only
      refine wpAnyF_take [11] (by kernel_rfl) (i := 1) (v := ?vg2) rfl (by kernel_rfl) (by kernel_rfl) (by kernel_rfl) (fun _ _ _ h => h) (Or.inl ⟨by kernel_rfl, ?hyg2⟩) hHeld ?restg2
      case hyg2 => intro w' hSw; (try dsimp only at hSw); go_simp; try with_reducible rfl
      simp only [Act.put]
      try dsimp only
      refine wpAnyF_take [11] (by kernel_rfl) (i := 2) (v := ?vg3) rfl (by kernel_rfl) (by kernel_rfl) (by kernel_rfl) (fun _ _ _ h => h) (Or.inl ⟨by kernel_rfl, ?hyg3⟩) hHeld ?restg3
      case hyg3 => intro w' hSw; (try dsimp only at hSw); go_simp; try with_reducible rfl
      simp only [Act.put]
      try dsimp only
      refine wpAnyF_take [11] (by kernel_rfl) (i := 3) (v := ?vg4) rfl (by kernel_rfl) (by kernel_rfl) (by kernel_rfl) (fun _ _ _ h => h) (Or.inl ⟨by kernel_rfl, ?hyg4⟩) hHeld ?restg4
      case hyg4 => intro w' hSw; (try dsimp only at hSw); go_simp; try with_reducible rfl
      simp only [Act.put]
      try dsimp only
      refine wpAnyF_take [11] (by kernel_rfl) (i := 4) (v := ?vg5) rfl (by kernel_rfl) (by kernel_rfl) (by kernel_rfl) (fun _ _ _ h => h) (Or.inl ⟨by kernel_rfl, ?hyg5⟩) hHeld ?restg5
      case hyg5 => intro w' hSw; (try dsimp only at hSw); go_simp; try with_reducible rfl
      simp only [Act.put]
      try dsimp only
      refine wpAnyF_take [11] (by kernel_rfl) (i := 5) (v := ?vg6) rfl (by kernel_rfl) (by kernel_rfl) (by kernel_rfl) (fun _ _ _ h => h) (Or.inl ⟨by kernel_rfl, ?hyg6⟩) hHeld ?restg6
      case hyg6 => intro w' hSw; (try dsimp only at hSw); go_simp; try with_reducible rfl
      simp only [Act.put]
      try dsimp only
      refine wpAnyF_take [11] (by kernel_rfl) (i := 6) (v := ?vg7) rfl (by kernel_rfl) (by kernel_rfl) (by kernel_rfl) (fun _ _ _ h => h) (Or.inl ⟨by kernel_rfl, ?hyg7⟩) hHeld ?restg7
      case hyg7 => intro w' hSw; (try dsimp only at hSw); go_simp; try with_reducible rfl
      simp only [Act.put]
      try dsimp only
      refine wpAnyF_takeC [11] (by kernel_rfl) (i := 7) (v := .int .i64 (restP x 4611686018427387904)) rfl (by kernel_rfl) (by kernel_rfl) (by kernel_rfl) (fun _ _ _ h => h) ⟨by kernel_rfl, _, #[.int .i64 x, .int .i64 4611686018427387904], fun w' hSw => ⟨by (try dsimp only at hSw); go_simp; try rfl, HRest.out x w'⟩⟩ hHeld ?_
      simp only [Act.put]
      try dsimp only
      refine wpAnyF_ready (rs := [8]) (by kernel_rfl) (by simp) ?_
      refine AllReadyF.cons rfl (fun K hK => ?_) AllReadyF.nil
      go_simp
      refine hK.out _ _ (HS4.out) (fun hHeld => ?_)
      clear hK K
      refine wpAnyF_ready (rs := [9]) (by kernel_rfl) (by simp) ?_
      refine AllReadyF.cons rfl (fun K hK => ?_) AllReadyF.nil
      refine step_append_run rfl (.tmp 36) (.tmp 43) 37 37 rfl (v := .slice av U.length cv) (u := .slice (some ⟨wq.heap.size, 0, none⟩) 1 1) (by kernel_rfl) (by kernel_rfl) HAp.out ?_
      simp only [Act.put]
      refine hK.out _ _ (HS5.out) (fun hHeld => ?_)
      clear hK K
      refine wpAnyF_take [11] (by kernel_rfl) (i := 10) (v := ?vg8) rfl (by kernel_rfl) (by kernel_rfl) (by kernel_rfl) (fun _ _ _ h => h) (Or.inl ⟨by kernel_rfl, ?hyg8⟩) hHeld ?restg8
      case hyg8 => intro w' hSw; (try dsimp only at hSw); go_simp; try with_reducible rfl
      simp only [Act.put]
      try dsimp only
      refine wpAnyF_ready (rs := [11]) (by kernel_rfl) (by simp) ?_
      refine AllReadyF.last rfl (fun K hK => ?_)
      have l6 := HF5.out.cell 6; have z6 := HF5.out.frozen 6
      simp [frc] at l6
      go_simp
      refine hK.out _ _ ?_
      clear hK K
      refine wpAnyF_done (by kernel_rfl) ?_ _
      go_wp2_with fail
      have hset := (Upd.refl (fun k => k = gf) w5').set ⟨gf, 6, none⟩ (.slice (some ⟨gT, 0, none⟩) (U.length + 1) capT) (.inl rfl)
      have hf6 := HF5.out.set 6 (.slice (some ⟨gT, 0, none⟩) (U.length + 1) capT)
      have hi6 := HI5.out.upd hset (fun k hk e => by subst e; exact absurd hk (HI5.out.notF HF5.out (by decide)))
      have hk6 := HK5.out.upd hset (show ¬ w.heap.size = gf by omega)
      have hz6 := HZ5.out.upd hset (show ¬ w.heap.size + 1 = gf by omega)
      have hb6 := HB5.out.trans (hset.below w.heap.size HB5.out.size (fun k hk => by omega))
      have HF6 := hide_ hf6
      have HI6 := hide_ hi6
      have HK6 := hide_ hk6
      have HZ6 := hide_ hz6
      have HB6 := hide_ hb6
      clear hset hf6 hi6 hk6 hz6 hb6
      go_roundw
      case rel => exact ⟨i + 1, U ++ [restP x 4611686018427387904], .slice (some ⟨gT, 0, none⟩) (U.length + 1) capT, by omega, by go_num, hide_ HNx.out, HF6, HI6, HK6, HZ6, HB6⟩
      case measure => simp [intOf]; omega
    · obtain rfl : i = TT.length := by omega
      have HUe : Hid (rgt f = ⟨(hd0 f).r, (hd0 f).a, (hd0 f).b, (hd0 f).e, (hd0 f).n, (hd0 f).x, U⟩) := hide_ (by rw [HU.out, List.take_length, ← HTT.out]; rfl)
      have hkf := HF.out
      have l0 := hkf.cell 0; have l1 := hkf.cell 1; have l2 := hkf.cell 2; have l3 := hkf.cell 3; have l4 := hkf.cell 4; have l5 := hkf.cell 5; have l6 := hkf.cell 6
      have hkz := HZ.out
      have m0 := hkz.cell 0; have m1 := hkz.cell 1; have m2 := hkz.cell 2; have m3 := hkz.cell 3; have m4 := hkz.cell 4; have m5 := hkz.cell 5; have m6 := hkz.cell 6
      have y0 := hkz.frozen 0; have y1 := hkz.frozen 1; have y2 := hkz.frozen 2; have y3 := hkz.frozen 3; have y4 := hkz.frozen 4; have y5 := hkz.frozen 5; have y6 := hkz.frozen 6
      generalize hd0 f = R0 at *
      simp [frc, frz, fr0] at l0 l1 l2 l3 l4 l5 l6 m0 m1 m2 m3 m4 m5 m6
      clear hkf hkz
      go_wp2_with fail
      have hk7 := HZ.out.set7 ⟨R0.r, R0.a, R0.b, R0.e, R0.n, R0.x, U⟩ (.slice av U.length cv)
      have hu7 := upd7 wq (w.heap.size + 1) 0 ⟨R0.r, R0.a, R0.b, R0.e, R0.n, R0.x, U⟩ (.slice av U.length cv)
      have hi7 := HI.out.upd hu7 (fun k hk e => by subst e; exact absurd hk (HI.out.notF HZ.out (by decide)))
      have hb7 := below7 HB.out (w.heap.size + 1) 0 ⟨R0.r, R0.a, R0.b, R0.e, R0.n, R0.x, U⟩ (.slice av U.length cv) (by omega)
      refine retF rfl ⟨R0.r, R0.a, R0.b, R0.e, R0.n, R0.x, U⟩ _ rfl hk7 ?_
      rw [HUe.out]
      exact ⟨av, cv, rfl, hide_ hi7, hide_ hb7⟩
end Go.Proofs.Ytcmkdkocponpiaa

/- Frames: copied, last, New, Push. -/
namespace Go.Proofs.Ytcmkdkocponpiaa
open Go.RowKit
set_option linter.unusedVariables false

set_option maxRecDepth 100000 in
set_option maxHeartbeats 8000000 in
theorem copied_any (f : Fr) (a : Option Addr) (c : Nat) (w : World) (hA : Hid (FrA w f a c)) (h48 : f.T.length ≤ 17592186044415) :
    Calls Try.prog 35 #[.agg #[.int .i64 f.r, .int .i64 f.a, .int .i64 f.b, .int .i64 f.e, .int .i64 f.n, .int .i64 f.x, .slice a f.T.length c]] w fun e w' => ∃ a' c', e = .returned (.agg #[.int .i64 f.r, .int .i64 f.a, .int .i64 f.b, .int .i64 f.e, .int .i64 f.n, .int .i64 f.x, .slice a' f.T.length c']) ∧ Hid (IOwn w' w.heap.size (.slice a' f.T.length c') f.T) ∧ Hid (Below w.heap.size w w') := by
  obtain ⟨wa, hwa⟩ : ∃ wx, wx = (w.alloc (.cells #[.int .i64 f.r, .int .i64 f.a, .int .i64 f.b, .int .i64 f.e, .int .i64 f.n, .int .i64 f.x, .slice a f.T.length c] 39)).alloc (.cells #[.int .i64 0, .int .i64 0, .int .i64 0, .int .i64 0, .int .i64 0, .int .i64 0, .slice none 0 0] 39) := ⟨_, rfl⟩
  have hB : Below w.heap.size w wa := by rw [hwa]; exact below2 _ _ _
  obtain ⟨k1, k2⟩ : Blk wa w.heap.size 39 (frc (f, .slice a f.T.length c)) ∧ Blk wa (w.heap.size + 1) 39 (frc frz) := by rw [hwa]; exact blk2 w _ _ _ _
  have n1' : ¬ w.heap.size = w.heap.size + 1 := by omega
  have n2' : ¬ w.heap.size + 1 = w.heap.size := by omega
  have hA1 := hA.out.later hB
  obtain ⟨v2, w2, hr, ho, hg⟩ := run_copy elI wa.drew 37 w.heap.size a f.T.length c f.T rfl hA1.1.drew hA1.2.1 hA1.2.2 (by omega) hB.size
  have hBg : Below wa.heap.size wa w2 := below_to (below_drewN (Below.refl _ _) 1) ((Upd.refl (fun _ => False) wa.drew).grown hg (fun k hk => by cases hk) |>.below _ (Nat.le_refl _) (fun k hk => hk.elim))
  obtain ⟨a2, c2, rfl, -⟩ := own_open ho rfl
  have hlt1 := k1.lt
  have hlt2 := k2.lt
  have HK1 := hide_ (k1.later hBg)
  have HK2 := hide_ (k2.later hBg)
  have HO := hide_ (show IOwn w2 w.heap.size (.slice a2 f.T.length c2) f.T from ho)
  have HSS : Hid (∀ w', Below w2.heap.size w2 w' → (fun w' => w'.cell? ⟨w.heap.size, 0, none⟩ = some (.int .i64 f.r) ∧ w'.cell? ⟨w.heap.size, 1, none⟩ = some (.int .i64 f.a) ∧ w'.cell? ⟨w.heap.size, 2, none⟩ = some (.int .i64 f.b) ∧ w'.cell? ⟨w.heap.size, 3, none⟩ = some (.int .i64 f.e) ∧ w'.cell? ⟨w.heap.size, 4, none⟩ = some (.int .i64 f.n) ∧ w'.cell? ⟨w.heap.size, 5, none⟩ = some (.int .i64 f.x) ∧ w'.cell? ⟨w.heap.size, 6, none⟩ = some (.slice a f.T.length c)) w') := hide_ (fun w' hb => by
    have k := HK1.out.later hb
    exact ⟨k.cell 0, k.cell 1, k.cell 2, k.cell 3, k.cell 4, k.cell 5, k.cell 6⟩)
  have HS2 := hide_ (HSS.out w2 (Below.refl _ _))
  have HS1 : Hid ((fun w' => w'.cell? ⟨w.heap.size, 0, none⟩ = some (.int .i64 f.r) ∧ w'.cell? ⟨w.heap.size, 1, none⟩ = some (.int .i64 f.a) ∧ w'.cell? ⟨w.heap.size, 2, none⟩ = some (.int .i64 f.b) ∧ w'.cell? ⟨w.heap.size, 3, none⟩ = some (.int .i64 f.e) ∧ w'.cell? ⟨w.heap.size, 4, none⟩ = some (.int .i64 f.n) ∧ w'.cell? ⟨w.heap.size, 5, none⟩ = some (.int .i64 f.x) ∧ w'.cell? ⟨w.heap.size, 6, none⟩ = some (.slice a f.T.length c)) wa.drew) := hide_ (by
    have k := k1.drew
    exact ⟨k.cell 0, k.cell 1, k.cell 2, k.cell 3, k.cell 4, k.cell 5, k.cell 6⟩)
  have HR := hide_ hr
  have HW := hide_ (with_any f a a2 f.T.length c f.T.length c2 w2)
  have HB2 := hide_ (below_to hB hBg)
  clear k1 k2 hA hA1 hr ho hg hB hBg hlt1 hlt2
  go_enter Try.func35, Try.ntmps35
  go_upto_region 1 with fail
  rw [← hwa]
  clear hwa
  refine wp_region_last 5 (fun w' => w'.cell? ⟨w.heap.size, 0, none⟩ = some (.int .i64 f.r) ∧ w'.cell? ⟨w.heap.size, 1, none⟩ = some (.int .i64 f.a) ∧ w'.cell? ⟨w.heap.size, 2, none⟩ = some (.int .i64 f.b) ∧ w'.cell? ⟨w.heap.size, 3, none⟩ = some (.int .i64 f.e) ∧ w'.cell? ⟨w.heap.size, 4, none⟩ = some (.int .i64 f.n) ∧ w'.cell? ⟨w.heap.size, 5, none⟩ = some (.int .i64 f.x) ∧ w'.cell? ⟨w.heap.size, 6, none⟩ = some (.slice a f.T.length c)) (by kernel_rfl) (HS1.out) (fun hHeld => ?_)
  refine wpAnyF_take [5] (by kernel_rfl) (i := 0) (v := ?vf1) rfl (by kernel_rfl) (by kernel_rfl) (by kernel_rfl) (fun _ _ _ h => h) (Or.inl ⟨by kernel_rfl, ?hyf1⟩) hHeld ?restf1
  case hyf1 => intro w' hSw; (try dsimp only at hSw); go_simp; try with_reducible rfl
  simp only [Act.put]
  try dsimp only
  refine wpAnyF_take [5] (by kernel_rfl) (i := 1) (v := ?vf2) rfl (by kernel_rfl) (by kernel_rfl) (by kernel_rfl) (fun _ _ _ h => h) (Or.inl ⟨by kernel_rfl, ?hyf2⟩) hHeld ?restf2
  case hyf2 => intro w' hSw; (try dsimp only at hSw); go_simp; try with_reducible rfl
  simp only [Act.put]
  try dsimp only
  refine wpAnyF_take [5] (by kernel_rfl) (i := 2) (v := ?vf3) rfl (by kernel_rfl) (by kernel_rfl) (by kernel_rfl) (fun _ _ _ h => h) (Or.inl ⟨by kernel_rfl, ?hyf3⟩) hHeld ?restf3
  case hyf3 => intro w' hSw; (try dsimp only at hSw); go_simp; try with_reducible rfl
  simp only [Act.put]
  try dsimp only
  refine wpAnyF_ready (rs := [3]) (by kernel_rfl) (by simp) ?_
  refine AllReadyF.cons rfl (fun K hK => ?_) AllReadyF.nil
  refine step_append_run rfl (.const (.slice none 0 0)) (.tmp 5) 37 37 rfl (v := .slice none 0 0) (u := .slice a f.T.length c) (by kernel_rfl) (by kernel_rfl) HR.out ?_
  simp only [Act.put]
  refine hK.out _ _ (HS2.out) (fun hHeld => ?_)
  clear hK K
  refine wpAnyF_ready (rs := [4]) (by kernel_rfl) (by simp) ?_
  refine AllReadyF.cons rfl (fun K hK => ?_) AllReadyF.nil
  go_simp
  refine HW.out.mono ?_
  rintro e w3 ⟨rfl, hB3⟩
  have HB3 := hide_ hB3
  clear hB3
  dsimp only
  refine hK.out _ _ (HSS.out _ HB3.out) (fun hHeld => ?_)
  clear hK K
  refine wpAnyF_ready (rs := [5]) (by kernel_rfl) (by simp) ?_
  refine AllReadyF.last rfl (fun K hK => ?_)
  have m2 := HK2.out.later HB3.out
  have l0 := m2.cell 0; have l1 := m2.cell 1; have l2 := m2.cell 2; have l3 := m2.cell 3; have l4 := m2.cell 4; have l5 := m2.cell 5; have l6 := m2.cell 6
  have y0 := m2.frozen 0; have y1 := m2.frozen 1; have y2 := m2.frozen 2; have y3 := m2.frozen 3; have y4 := m2.frozen 4; have y5 := m2.frozen 5; have y6 := m2.frozen 6
  simp [frc, frz, fr0] at l0 l1 l2 l3 l4 l5 l6
  have HM2 := hide_ m2
  clear m2
  go_simp
  refine hK.out _ _ ?_
  clear hK K
  refine wpAnyF_done (by kernel_rfl) ?_ _
  go_wp2_with fail
  refine retF rfl f _ rfl (HM2.out.set7 f (.slice a2 f.T.length c2)) ?_
  exact ⟨a2, c2, rfl, hide_ (IOwn.upd (HO.out.later HB3.out) (upd7 _ _ _ _ _) (fun k hk e => by subst e; exact (HO.out.later HB3.out).notF HM2.out (by decide) hk)), hide_ (below7 (below_to HB2.out HB3.out) _ _ _ _ (by omega))⟩
/-- What Push answers. -/
def PushTo (w : World) (B : Nat) (F : Nat → Prop) (g : Nat) (fs : List Fr) (m h : Int) (f : Fr) (e : Ending) (w' : World) : Prop :=
  ((fs.length : Int) = m ∧ e = .returned (.int .i64 220) ∧ StkTo w B F w' g fs m h) ∨
  ((fs.length : Int) < m ∧ frB f = false ∧ e = .returned (.int .i64 3) ∧ StkTo w B F w' g fs m h) ∨
  ((fs.length : Int) < m ∧ frB f = true ∧ e = .returned (.int .i64 0) ∧ StkTo w B F w' g (fs ++ [f]) m (max h (fs.length + 1)))
theorem maxI (x y : Int) : (if x < y then y else x) = max x y := by
  by_cases h : x < y
  · rw [if_pos h]; omega
  · rw [if_neg h]; omega
set_option maxRecDepth 100000 in
set_option maxHeartbeats 16000000 in
theorem push_any (w : World) (B : Nat) (F : Nat → Prop) (g : Nat) (fs : List Fr) (m h : Int) (f : Fr) (a : Option Addr) (c : Nat) (hS : Hid (Stk w B F g fs m h)) (hA : Hid (FrA w f a c)) (hBw : B ≤ w.heap.size) :
    Calls Try.prog 16 #[.pointer (some ⟨g, 0, none⟩), .agg #[.int .i64 f.r, .int .i64 f.a, .int .i64 f.b, .int .i64 f.e, .int .i64 f.n, .int .i64 f.x, .slice a f.T.length c]] w fun e w' => PushTo w B F g fs m h f e w' := by
  obtain ⟨v, P, hM, hP, hF, hFl⟩ := hS.out
  have HF := hide_ hF
  have HFl := hide_ hFl
  have HS := hS
  obtain ⟨av, cv, rfl, hcv, -, -⟩ := hM.own.slice
  obtain ⟨w1, hw1⟩ : ∃ wx, wx = w.alloc (.cells #[.int .i64 f.r, .int .i64 f.a, .int .i64 f.b, .int .i64 f.e, .int .i64 f.n, .int .i64 f.x, .slice a f.T.length c] 39) := ⟨_, rfl⟩
  have hB1 : Below w.heap.size w w1 := by rw [hw1]; exact below1 _ _
  have k1 : Blk w1 w.heap.size 39 (frc (f, .slice a f.T.length c)) := by rw [hw1]; exact Blk.newA w _ _
  have HPl : Hid (fs.length = P.length) := hide_ (by rw [← hP]; simp)
  have HPm := hide_ hP
  have HM := hide_ hM
  have hl := hM.hl
  have hmm := hM.hm.2
  have HM1 := hide_ (hM.later hB1)
  have HK1 := hide_ k1
  have HB1 := hide_ hB1
  have HA1 := hide_ (hA.out.later hB1)
  have j0 := k1.cell 0; have j1 := k1.cell 1; have j2 := k1.cell 2; have j3 := k1.cell 3; have j4 := k1.cell 4; have j5 := k1.cell 5; have j6 := k1.cell 6
  have q0 := HM1.out.box.cell 0; have q1 := HM1.out.box.cell 1
  simp [frc] at j0 j1 j2 j3 j4 j5 j6 q0 q1
  clear hP hF hFl hM hS k1 hB1 hA hcv
  go_enter Try.func16, Try.ntmps16
  go_upto_region 1 with fail
  rw [← hw1]
  clear hw1
  by_cases hm : (P.length : Int) = m
  · have hm' : ((P.length : Int) == m) = true := by simpa using hm
    have HE := hide_ hm
    clear hm
    go_region
    go_wp2_with fail
    go_ret
    exact .inl ⟨by rw [HPl.out]; exact HE.out, rfl, HS.out.same (HB1.out.trans (below_drewN (Below.refl w1.heap.size w1) 1 |>.mono HB1.out.size))⟩
  · have hm' : ((P.length : Int) == m) = false := by simpa using hm
    have hlt : (P.length : Int) < m := by omega
    clear hm
    have HRi := hide_ (fun w' h => right_any f a c w' h)
    go_region
    go_wp2_with fail
    refine (right_any f a c _ (hide_ ⟨HA1.out.1.drew, HA1.out.2⟩)).mono ?_
    rintro e w2 ⟨rfl, hB2⟩
    have hB12 : Below w1.heap.size w1 w2 := below_to ((Below.refl w1.heap.size w1).drew) hB2
    cases hf : frB f with
    | false =>
      have HFf := hide_ hf
      have HB2 := hide_ (below_to HB1.out hB12)
      clear hf hB2 hB12
      go_wp2_with fail
      go_ret
      exact .inr (.inl ⟨by rw [HPl.out]; exact hlt, HFf.out, rfl, HS.out.same HB2.out⟩)
    | true =>
      have HFf := hide_ hf
      have HT : Hid (f.T.length ≤ 1048576) := hide_ (frB_is hf).1
      have HM2 := hide_ (HM1.out.later hB12)
      have HK2 := hide_ (HK1.out.later hB12)
      have HA2 := hide_ (HA1.out.later hB12)
      have HB2 := hide_ (below_to HB1.out hB12)
      have HC := hide_ (copied_any f a c w2.drew (hide_ ⟨HA2.out.1.drew, HA2.out.2⟩) (by have := HT.out; omega))
      have HLb : Hid (∀ k, (Value.slice av P.length cv).ownBlock = some k → k < w.heap.size) := hide_ (fun k hk => (HM.out.own.row.lt k hk).2)
      have HLt : Hid (∀ p ∈ P, ∀ k, p.2.ownBlock = some k → k < w.heap.size) := hide_ (fun p hp k hk => ((HM.out.own.tb p hp).lies hk).2)
      have HS1 : Hid ((fun w' => w'.cell? ⟨w.heap.size, 0, none⟩ = some (.int .i64 f.r) ∧ w'.cell? ⟨w.heap.size, 1, none⟩ = some (.int .i64 f.a) ∧ w'.cell? ⟨w.heap.size, 2, none⟩ = some (.int .i64 f.b) ∧ w'.cell? ⟨w.heap.size, 3, none⟩ = some (.int .i64 f.e) ∧ w'.cell? ⟨w.heap.size, 4, none⟩ = some (.int .i64 f.n) ∧ w'.cell? ⟨w.heap.size, 5, none⟩ = some (.int .i64 f.x) ∧ w'.cell? ⟨w.heap.size, 6, none⟩ = some (.slice a f.T.length c) ∧ w'.cell? ⟨g, 0, none⟩ = some (.slice av P.length cv)) w2.drew) := hide_ (by
        have k := HK2.out.drew
        have b := HM2.out.box.drew
        exact ⟨k.cell 0, k.cell 1, k.cell 2, k.cell 3, k.cell 4, k.cell 5, k.cell 6, b.cell 0⟩)
      clear hf hB2 hB12 j0 j1 j2 j3 j4 j5 j6 q0 q1 hm'
      go_wp2_with fail
      refine wp_region_last 11 (fun w' => w'.cell? ⟨w.heap.size, 0, none⟩ = some (.int .i64 f.r) ∧ w'.cell? ⟨w.heap.size, 1, none⟩ = some (.int .i64 f.a) ∧ w'.cell? ⟨w.heap.size, 2, none⟩ = some (.int .i64 f.b) ∧ w'.cell? ⟨w.heap.size, 3, none⟩ = some (.int .i64 f.e) ∧ w'.cell? ⟨w.heap.size, 4, none⟩ = some (.int .i64 f.n) ∧ w'.cell? ⟨w.heap.size, 5, none⟩ = some (.int .i64 f.x) ∧ w'.cell? ⟨w.heap.size, 6, none⟩ = some (.slice a f.T.length c) ∧ w'.cell? ⟨g, 0, none⟩ = some (.slice av P.length cv)) (by kernel_rfl) (HS1.out) (fun hHeld => ?_)
      refine wpAnyF_take [11] (by kernel_rfl) (i := 0) (v := ?vp1) rfl (by kernel_rfl) (by kernel_rfl) (by kernel_rfl) (fun _ _ _ h => h) (Or.inl ⟨by kernel_rfl, ?hyp1⟩) hHeld ?restp1
      case hyp1 => intro w' hSw; (try dsimp only at hSw); go_simp; try with_reducible rfl
      simp only [Act.put]
      try dsimp only
      refine wpAnyF_take [11] (by kernel_rfl) (i := 1) (v := ?vp2) rfl (by kernel_rfl) (by kernel_rfl) (by kernel_rfl) (fun _ _ _ h => h) (Or.inl ⟨by kernel_rfl, ?hyp2⟩) hHeld ?restp2
      case hyp2 => intro w' hSw; (try dsimp only at hSw); go_simp; try with_reducible rfl
      simp only [Act.put]
      try dsimp only
      refine wpAnyF_take [11] (by kernel_rfl) (i := 2) (v := ?vp3) rfl (by kernel_rfl) (by kernel_rfl) (by kernel_rfl) (fun _ _ _ h => h) (Or.inl ⟨by kernel_rfl, ?hyp3⟩) hHeld ?restp3
      case hyp3 => intro w' hSw; (try dsimp only at hSw); go_simp; try with_reducible rfl
      simp only [Act.put]
      try dsimp only
      refine wpAnyF_take [11] (by kernel_rfl) (i := 3) (v := ?vp4) rfl (by kernel_rfl) (by kernel_rfl) (by kernel_rfl) (fun _ _ _ h => h) (Or.inl ⟨by kernel_rfl, ?hyp4⟩) hHeld ?restp4
      case hyp4 => intro w' hSw; (try dsimp only at hSw); go_simp; try with_reducible rfl
      simp only [Act.put]
      try dsimp only
      refine wpAnyF_take [11] (by kernel_rfl) (i := 4) (v := ?vp5) rfl (by kernel_rfl) (by kernel_rfl) (by kernel_rfl) (fun _ _ _ h => h) (Or.inl ⟨by kernel_rfl, ?hyp5⟩) hHeld ?restp5
      case hyp5 => intro w' hSw; (try dsimp only at hSw); go_simp; try with_reducible rfl
      simp only [Act.put]
      try dsimp only
      refine wpAnyF_take [11] (by kernel_rfl) (i := 5) (v := ?vp6) rfl (by kernel_rfl) (by kernel_rfl) (by kernel_rfl) (fun _ _ _ h => h) (Or.inl ⟨by kernel_rfl, ?hyp6⟩) hHeld ?restp6
      case hyp6 => intro w' hSw; (try dsimp only at hSw); go_simp; try with_reducible rfl
      simp only [Act.put]
      try dsimp only
      refine wpAnyF_ready (rs := [6]) (by kernel_rfl) (by simp) ?_
      refine AllReadyF.cons rfl (fun K hK => ?_) AllReadyF.nil
      go_simp
      refine HC.out.mono ?_
      rintro e w3 ⟨a3, c3, rfl, HI3, HB3⟩
      have HI3 := HI3
      have hb3 : Below w2.heap.size w2 w3 := below_to ((Below.refl w2.heap.size w2).drew) HB3.out
      have HM3 := hide_ (HM2.out.later hb3)
      have HK3 := hide_ (HK2.out.later hb3)
      have hsz2 : w.heap.size ≤ w2.heap.size := HB2.out.size
      have hsz3 : w2.heap.size ≤ w3.heap.size := hb3.size
      obtain ⟨gF, cap, w4, hr, ho, hu, hgF⟩ := HM3.out.own.push f (own_base HI3.out (by show B ≤ w2.heap.size; omega)) (fun p hp k hk h2 => by
        have h3 := HLt.out p hp k hk
        have h4 : w2.heap.size ≤ k := (HI3.out.lies h2).1
        omega) (by omega) (by omega)
      have HR := hide_ hr
      have HO4 := hide_ ho
      have HU4 := hide_ hu
      have HgF := hide_ hgF
      have HK4 := hide_ (HK3.out.upd hu (fun e => by have := HLb.out _ e; omega))
      have HG5 := hide_ (HM3.out.box.upd hu (fun e => HM3.out.own.rowNe HM3.out.box (by decide) e))
      have HS3 : Hid ((fun w' => w'.cell? ⟨w.heap.size, 0, none⟩ = some (.int .i64 f.r) ∧ w'.cell? ⟨w.heap.size, 1, none⟩ = some (.int .i64 f.a) ∧ w'.cell? ⟨w.heap.size, 2, none⟩ = some (.int .i64 f.b) ∧ w'.cell? ⟨w.heap.size, 3, none⟩ = some (.int .i64 f.e) ∧ w'.cell? ⟨w.heap.size, 4, none⟩ = some (.int .i64 f.n) ∧ w'.cell? ⟨w.heap.size, 5, none⟩ = some (.int .i64 f.x) ∧ w'.cell? ⟨w.heap.size, 6, none⟩ = some (.slice a f.T.length c) ∧ w'.cell? ⟨g, 0, none⟩ = some (.slice av P.length cv)) w3) := hide_ ⟨HK3.out.cell 0, HK3.out.cell 1, HK3.out.cell 2, HK3.out.cell 3, HK3.out.cell 4, HK3.out.cell 5, HK3.out.cell 6, HM3.out.box.cell 0⟩
      have HS4 : Hid ((fun w' => w'.cell? ⟨w.heap.size, 0, none⟩ = some (.int .i64 f.r) ∧ w'.cell? ⟨w.heap.size, 1, none⟩ = some (.int .i64 f.a) ∧ w'.cell? ⟨w.heap.size, 2, none⟩ = some (.int .i64 f.b) ∧ w'.cell? ⟨w.heap.size, 3, none⟩ = some (.int .i64 f.e) ∧ w'.cell? ⟨w.heap.size, 4, none⟩ = some (.int .i64 f.n) ∧ w'.cell? ⟨w.heap.size, 5, none⟩ = some (.int .i64 f.x) ∧ w'.cell? ⟨w.heap.size, 6, none⟩ = some (.slice a f.T.length c) ∧ w'.cell? ⟨g, 0, none⟩ = some (.slice av P.length cv)) (w3.alloc (.cells #[.int .i64 f.r, .int .i64 f.a, .int .i64 f.b, .int .i64 f.e, .int .i64 f.n, .int .i64 f.x, .slice a3 f.T.length c3] 39))) := hide_ ⟨(HK3.out.alloc _).cell 0, (HK3.out.alloc _).cell 1, (HK3.out.alloc _).cell 2, (HK3.out.alloc _).cell 3, (HK3.out.alloc _).cell 4, (HK3.out.alloc _).cell 5, (HK3.out.alloc _).cell 6, (HM3.out.box.alloc _).cell 0⟩
      have HS5 : Hid ((fun w' => w'.cell? ⟨w.heap.size, 0, none⟩ = some (.int .i64 f.r) ∧ w'.cell? ⟨w.heap.size, 1, none⟩ = some (.int .i64 f.a) ∧ w'.cell? ⟨w.heap.size, 2, none⟩ = some (.int .i64 f.b) ∧ w'.cell? ⟨w.heap.size, 3, none⟩ = some (.int .i64 f.e) ∧ w'.cell? ⟨w.heap.size, 4, none⟩ = some (.int .i64 f.n) ∧ w'.cell? ⟨w.heap.size, 5, none⟩ = some (.int .i64 f.x) ∧ w'.cell? ⟨w.heap.size, 6, none⟩ = some (.slice a f.T.length c) ∧ w'.cell? ⟨g, 0, none⟩ = some (.slice av P.length cv)) w4) := hide_ ⟨HK4.out.cell 0, HK4.out.cell 1, HK4.out.cell 2, HK4.out.cell 3, HK4.out.cell 4, HK4.out.cell 5, HK4.out.cell 6, HG5.out.cell 0⟩
      have HG6 := hide_ (HG5.out.set 0 (.slice (some ⟨gF, 0, none⟩) (P.length + 1) cap))
      clear hr ho hu hgF hb3 hsz2 hsz3
      dsimp only
      refine hK.out _ _ (HS3.out) (fun hHeld => ?_)
      clear hK K
      refine wpAnyF_ready (rs := [7]) (by kernel_rfl) (by simp) ?_
      refine AllReadyF.cons rfl (fun K hK => ?_) AllReadyF.nil
      go_simp
      refine hK.out _ _ (HS4.out) (fun hHeld => ?_)
      clear hK K
      refine wpAnyF_ready (rs := [8]) (by kernel_rfl) (by simp) ?_
      refine AllReadyF.cons rfl (fun K hK => ?_) AllReadyF.nil
      refine step_append_run rfl (.tmp 24) (.tmp 27) 22 22 rfl (v := .slice av P.length cv) (u := .slice (some ⟨w3.heap.size, 0, none⟩) 1 1) (by kernel_rfl) (by kernel_rfl) HR.out ?_
      simp only [Act.put]
      refine hK.out _ _ (HS5.out) (fun hHeld => ?_)
      clear hK K
      refine wpAnyF_take [11, 10] (by kernel_rfl) (i := 9) (v := ?vp7) rfl (by kernel_rfl) (by kernel_rfl) (by kernel_rfl) (fun _ _ _ h => h) (Or.inl ⟨by kernel_rfl, ?hyp7⟩) hHeld ?restp7
      case hyp7 => intro w' hSw; (try dsimp only at hSw); go_simp; try with_reducible rfl
      simp only [Act.put]
      try dsimp only
      refine wpAnyF_take [11] (by kernel_rfl) (i := 10) (v := ?vp8) rfl (by kernel_rfl) (by kernel_rfl) (by kernel_rfl) (fun _ _ _ h => h) (Or.inl ⟨by kernel_rfl, ?hyp8⟩) hHeld ?restp8
      case hyp8 => intro w' hSw; (try dsimp only at hSw); go_simp; try with_reducible rfl
      simp only [Act.put]
      try dsimp only
      refine wpAnyF_ready (rs := [11]) (by kernel_rfl) (by simp) ?_
      refine AllReadyF.last rfl (fun K hK => ?_)
      have q1 := HG5.out.cell 0; have qz := HG5.out.frozen 0
      simp at q1
      go_simp
      refine hK.out _ _ ?_
      clear hK K
      refine wpAnyF_done (by kernel_rfl) ?_ _
      have HEND : Hid (∀ x, x = max h ((fs.length : Int) + 1) → StkTo w B F ((w4.setCell ⟨g, 0, none⟩ (.slice (some ⟨gF, 0, none⟩) (P.length + 1) cap)).setCell ⟨g, 2, none⟩ (.int .i64 x)).drew g (fs ++ [f]) m (max h ((fs.length : Int) + 1))) := hide_ (fun x hx => by
        have hb3 : Below w2.heap.size w2 w3 := below_to ((Below.refl w2.heap.size w2).drew) HB3.out
        have hFg : F g := HF.out g (.inl rfl)
        have hu0 : Upd F w w3 := Upd.of_below (below_to HB2.out hb3)
        have hu1 : Upd F w w4 := hu0.trans HU4.out (fun k _ hk => HF.out k (.inr (.inl hk)))
        have hu2 := (hu1.set ⟨g, 0, none⟩ (.slice (some ⟨gF, 0, none⟩) (P.length + 1) cap) (.inl hFg)).set ⟨g, 2, none⟩ (.int .i64 x) (.inl hFg)
        have hu3 := hu2.drew
        have hg1 := ((Upd.refl (fun k => k = g) w4).set ⟨g, 0, none⟩ (.slice (some ⟨gF, 0, none⟩) (P.length + 1) cap) (.inl rfl)).set ⟨g, 2, none⟩ (.int .i64 x) (.inl rfl)
        have hg2 := hg1.drew
        have hsz3 : w.heap.size ≤ w2.heap.size := HB2.out.size
        have hsz4 : w2.heap.size ≤ w3.heap.size := hb3.size
        have hM5 : StM ((w4.setCell ⟨g, 0, none⟩ (.slice (some ⟨gF, 0, none⟩) (P.length + 1) cap)).setCell ⟨g, 2, none⟩ (.int .i64 x)).drew B g (.slice (some ⟨gF, 0, none⟩) (P.length + 1) cap) (P ++ [(f, .slice a3 f.T.length c3)]) m x := by
          refine ⟨((HG5.out.set 0 _).set 2 _).drew, HO4.out.upd hg2 (fun k hk e => ?_) (fun p hp k hk e => ?_), HM.out.bg, HM.out.hm, ?_, ?_, fun p hp => ?_⟩
          · subst e; exact HO4.out.rowNe HG5.out (by decide) hk
          · subst e; exact HO4.out.tbNe HG5.out (by decide) p hp hk
          · rw [List.length_append, List.length_singleton]; omega
          · have := HM.out.hh
            rw [List.length_append, List.length_singleton]
            rw [HPl.out] at hx
            omega
          · rcases List.mem_append.1 hp with hp | hp
            · exact HM.out.rt p hp
            · simp only [List.mem_singleton] at hp
              subst hp
              exact HFf.out
        have hto := hM5.to hu3 hBw HFl.out (fun k hk => by
          rcases hk with rfl | hk | ⟨p, hp, hk⟩
          · exact .inl hFg
          · have hk' : gF = k := own_is hk
            subst hk'
            rcases HgF.out with h1 | h1
            · exact .inl (HF.out _ (.inr (.inl h1)))
            · exact .inr (by omega)
          · rcases List.mem_append.1 hp with hp | hp
            · exact .inl (HF.out k (.inr (.inr ⟨p, hp, hk⟩)))
            · simp only [List.mem_singleton] at hp
              subst hp
              have h4 : w2.heap.size ≤ k := (HI3.out.lies hk).1
              exact .inr (by omega))
        rw [List.map_append, HPm.out] at hto
        rw [← hx]
        exact hto)
      have q2 := HG6.out.cell 0; have q3 := HG6.out.cell 2; have z3 := HG6.out.frozen 2
      simp at q2 q3
      go_wp2_with fail
      go_region
      go_wp2_with fail
      all_goals go_ret
      all_goals exact .inr (.inr ⟨by rw [HPl.out]; exact hlt, HFf.out, rfl, HEND.out _ (by rw [HPl.out]; omega)⟩)
end Go.Proofs.Ytcmkdkocponpiaa

/- Frames: Top, Head, Slot, Slots. -/
namespace Go.Proofs.Ytcmkdkocponpiaa
open Go.RowKit
set_option linter.unusedVariables false

theorem FOwn.last {w : World} {B : Nat} {v : Value} {Q : List (Fr × Value)} {p : Fr × Value} (h : FOwn w B v (Q ++ [p])) :
    ∃ gF cap, v = .slice (some ⟨gF, 0, none⟩) (Q.length + 1) cap ∧ Q.length + 1 ≤ cap ∧ cap ≤ maxLen ∧ B ≤ gF ∧ gF < w.heap.size ∧ (∀ j, j < 7 → w.cell? ⟨gF, Q.length * 7 + j, none⟩ = (frc p)[j]?) ∧ (∀ o, w.frozen? ⟨gF, o, none⟩ = false) ∧ ∃ ys, Blk w gF 39 ys := by
  obtain ⟨g, cap, ys, e, hb, hn, hm, hys, ht, hk⟩ := ownS_blk h.row (by simp)
  have hl : (Q ++ [p]).length = Q.length + 1 := by simp
  rw [hl] at e hn
  refine ⟨g, cap, e, hn, hm, hb, hk.lt, fun j hj => ?_, fun o => hk.frozen o, ys, hk⟩
  have hx : (Q ++ [p])[Q.length]? = some p := by simp
  have h1 := cellsG_at frc_len (Q ++ [p]) Q.length j p hx hj
  rw [hk.cell, ← h1, ← ht, List.getElem?_take, if_pos (by rw [hl]; omega)]
theorem z7 (w : World) (g : Nat) : ((((((w.setCell ⟨g, 0, none⟩ (.int .i64 0)).setCell ⟨g, 1, none⟩ (.int .i64 0)).setCell ⟨g, 2, none⟩ (.int .i64 0)).setCell ⟨g, 3, none⟩ (.int .i64 0)).setCell ⟨g, 4, none⟩ (.int .i64 0)).setCell ⟨g, 5, none⟩ (.int .i64 0)).setCell ⟨g, 6, none⟩ (.slice none 0 0) = set7 w g 0 fr0 (.slice none 0 0) := by simp only [set7, fr0, Nat.zero_add]
theorem z7o (w : World) (g o : Nat) : ((((((w.setCell ⟨g, o, none⟩ (.int .i64 0)).setCell ⟨g, o + 1, none⟩ (.int .i64 0)).setCell ⟨g, o + 2, none⟩ (.int .i64 0)).setCell ⟨g, o + 3, none⟩ (.int .i64 0)).setCell ⟨g, o + 4, none⟩ (.int .i64 0)).setCell ⟨g, o + 5, none⟩ (.int .i64 0)).setCell ⟨g, o + 6, none⟩ (.slice none 0 0) = set7 w g o fr0 (.slice none 0 0) := by simp only [set7, fr0]
theorem fag0 (v : Value) : fag fr0 v = .agg #[.int .i64 0, .int .i64 0, .int .i64 0, .int .i64 0, .int .i64 0, .int .i64 0, v] := by simp only [fag, fr0]
/-- What Top answers. -/
def TopTo (w : World) (fs : List Fr) (e : Ending) (w' : World) : Prop :=
  (fs = [] ∧ e = .returned (.tuple #[.agg #[.int .i64 0, .int .i64 0, .int .i64 0, .int .i64 0, .int .i64 0, .int .i64 0, .slice none 0 0], .int .i64 220]) ∧ Below w.heap.size w w') ∨
  (∃ l f a c, fs = l ++ [f] ∧ e = .returned (.tuple #[.agg #[.int .i64 f.r, .int .i64 f.a, .int .i64 f.b, .int .i64 f.e, .int .i64 f.n, .int .i64 f.x, .slice a f.T.length c], .int .i64 0]) ∧ Hid (IOwn w' w.heap.size (.slice a f.T.length c) f.T) ∧ Below w.heap.size w w')
/-- What Head answers. -/
def HeadTo (w : World) (fs : List Fr) (e : Ending) (w' : World) : Prop :=
  (fs = [] ∧ e = .returned (.tuple #[.agg #[.int .i64 0, .int .i64 0, .int .i64 0, .int .i64 0, .int .i64 0, .int .i64 0, .slice none 0 0], .int .i64 220]) ∧ Below w.heap.size w w') ∨
  (∃ l f, fs = l ++ [f] ∧ e = .returned (.tuple #[.agg #[.int .i64 f.r, .int .i64 f.a, .int .i64 f.b, .int .i64 f.e, .int .i64 f.n, .int .i64 f.x, .slice none 0 0], .int .i64 0]) ∧ Below w.heap.size w w')
set_option maxRecDepth 100000 in
set_option maxHeartbeats 16000000 in
theorem top_any (w : World) (B : Nat) (F : Nat → Prop) (g : Nat) (fs : List Fr) (m h : Int) (hS : Hid (Stk w B F g fs m h)) :
    Calls Try.prog 17 #[.pointer (some ⟨g, 0, none⟩)] w fun e w' => TopTo w fs e w' := by
  obtain ⟨v, P, hM, hP, hF, hFl⟩ := hS.out
  obtain ⟨wa, hwa⟩ : ∃ wx, wx = w.alloc (.cells #[.int .i64 0, .int .i64 0, .int .i64 0, .int .i64 0, .int .i64 0, .int .i64 0, .slice none 0 0] 39) := ⟨_, rfl⟩
  have hB : Below w.heap.size w wa := by rw [hwa]; exact below1 _ _
  have k1 : Blk wa w.heap.size 39 (frc frz) := by rw [hwa]; exact Blk.newA w _ _
  have HB := hide_ hB
  have hM1 := hM.later hB
  have HPm := hide_ hP
  clear hS hF hFl hM hB hP
  rcases List.eq_nil_or_concat P with rfl | ⟨Q, p, rfl⟩
  · obtain ⟨av, cv, rfl, -⟩ := hM1.own.slice
    have HL := hide_ (last_nil g av cv _ _ wa (hide_ hM1.box))
    have l0 := k1.cell 0; have l1 := k1.cell 1; have l2 := k1.cell 2; have l3 := k1.cell 3; have l4 := k1.cell 4; have l5 := k1.cell 5; have l6 := k1.cell 6
    have y0 := k1.frozen 0; have y1 := k1.frozen 1; have y2 := k1.frozen 2; have y3 := k1.frozen 3; have y4 := k1.frozen 4; have y5 := k1.frozen 5; have y6 := k1.frozen 6
    simp [frc, frz, fr0] at l0 l1 l2 l3 l4 l5 l6
    have HK := hide_ k1
    clear k1 hM1
    go_enter Try.func17, Try.ntmps17
    go_upto_region 1 with fail
    rw [← hwa]
    clear hwa
    go_wp2_with (go_at_call 33; refine HL.out.mono ?_; rintro e w' ⟨rfl, rfl⟩)
    rw [z7]
    refine retFu rfl fr0 _ rfl rfl (HK.out.set7 fr0 (.slice none 0 0)) ?_
    rw [fag0]
    exact .inl ⟨HPm.out.symm, rfl, below7 HB.out _ _ _ _ (Nat.le_refl _)⟩
  · rw [List.concat_eq_append] at hM1 HPm
    obtain ⟨gF, cap, rfl, hn, hm, hbg, hlt, hc, hz, hbk⟩ := hM1.own.last
    obtain ⟨f, pv⟩ := p
    obtain ⟨at_, ct, hpv, hfa⟩ := (hM1.own.tb (f, pv) (List.mem_append_right _ (List.mem_singleton.2 rfl))).fra
    have hpv' : pv = .slice at_ f.T.length ct := hpv
    subst hpv'
    have hrt := (frB_is (hM1.rt (f, .slice at_ f.T.length ct) (List.mem_append_right _ (List.mem_singleton.2 rfl)))).1
    have hrt' : f.T.length ≤ 1048576 := hrt
    unfold maxLen at hm
    have HL := hide_ (last_some g gF Q.length cap _ _ wa (by omega) (hide_ hM1.box))
    have i0 := hc 0 (by decide); have i1 := hc 1 (by decide); have i2 := hc 2 (by decide); have i3 := hc 3 (by decide); have i4 := hc 4 (by decide); have i5 := hc 5 (by decide); have i6 := hc 6 (by decide)
    simp [frc] at i0 i1 i2 i3 i4 i5 i6
    have HC := hide_ (copied_any f at_ ct wa.drew (hide_ ⟨hfa.1.drew, hfa.2⟩) (by omega))
    have HK := hide_ k1
    clear k1 hM1 hc hz hbk hfa hrt hrt' hn hm hbg hlt
    go_enter Try.func17, Try.ntmps17
    go_upto_region 1 with fail
    rw [← hwa]
    clear hwa
    go_wp2_with (go_at_call 33; refine HL.out.mono ?_; rintro e w' ⟨rfl, rfl⟩)
    refine HC.out.mono ?_
    rintro e w2 ⟨a2, c2, rfl, HI, HB2⟩
    have hb2 : Below wa.heap.size wa w2 := below_to ((Below.refl wa.heap.size wa).drew) HB2.out
    have k2 := HK.out.later hb2
    have l0 := k2.cell 0; have l1 := k2.cell 1; have l2 := k2.cell 2; have l3 := k2.cell 3; have l4 := k2.cell 4; have l5 := k2.cell 5; have l6 := k2.cell 6
    have y0 := k2.frozen 0; have y1 := k2.frozen 1; have y2 := k2.frozen 2; have y3 := k2.frozen 3; have y4 := k2.frozen 4; have y5 := k2.frozen 5; have y6 := k2.frozen 6
    simp [frc, frz, fr0] at l0 l1 l2 l3 l4 l5 l6
    have HK2 := hide_ k2
    have HBa := hide_ (below_to HB.out hb2)
    clear k2 hb2
    go_wp2_with fail
    refine retFu rfl f _ rfl rfl (HK2.out.set7 f (.slice a2 f.T.length c2)) ?_
    refine .inr ⟨Q.map (·.1), f, a2, c2, ?_, rfl, hide_ ?_, below7 HBa.out _ _ _ _ (Nat.le_refl _)⟩
    · rw [← HPm.out, List.map_append]; rfl
    · exact IOwn.upd (own_base HI.out HB.out.size) (upd7 _ _ _ _ _) (fun k hk e => by subst e; exact HI.out.notF HK2.out (by decide) hk)
set_option maxRecDepth 100000 in
set_option maxHeartbeats 16000000 in
theorem head_any (w : World) (B : Nat) (F : Nat → Prop) (g : Nat) (fs : List Fr) (m h : Int) (hS : Hid (Stk w B F g fs m h)) :
    Calls Try.prog 28 #[.pointer (some ⟨g, 0, none⟩)] w fun e w' => HeadTo w fs e w' := by
  obtain ⟨v, P, hM, hP, hF, hFl⟩ := hS.out
  obtain ⟨wa, hwa⟩ : ∃ wx, wx = w.alloc (.cells #[.int .i64 0, .int .i64 0, .int .i64 0, .int .i64 0, .int .i64 0, .int .i64 0, .slice none 0 0] 39) := ⟨_, rfl⟩
  have hB : Below w.heap.size w wa := by rw [hwa]; exact below1 _ _
  have k1 : Blk wa w.heap.size 39 (frc frz) := by rw [hwa]; exact Blk.newA w _ _
  have HB := hide_ hB
  have hM1 := hM.later hB
  have HPm := hide_ hP
  clear hS hF hFl hM hB hP
  rcases List.eq_nil_or_concat P with rfl | ⟨Q, p, rfl⟩
  · obtain ⟨av, cv, rfl, -⟩ := hM1.own.slice
    have HL := hide_ (last_nil g av cv _ _ wa (hide_ hM1.box))
    have l0 := k1.cell 0; have l1 := k1.cell 1; have l2 := k1.cell 2; have l3 := k1.cell 3; have l4 := k1.cell 4; have l5 := k1.cell 5; have l6 := k1.cell 6
    have y0 := k1.frozen 0; have y1 := k1.frozen 1; have y2 := k1.frozen 2; have y3 := k1.frozen 3; have y4 := k1.frozen 4; have y5 := k1.frozen 5; have y6 := k1.frozen 6
    simp [frc, frz, fr0] at l0 l1 l2 l3 l4 l5 l6
    have HK := hide_ k1
    clear k1 hM1
    go_enter Try.func28, Try.ntmps28
    go_upto_region 1 with fail
    rw [← hwa]
    clear hwa
    go_wp2_with (go_at_call 33; refine HL.out.mono ?_; rintro e w' ⟨rfl, rfl⟩)
    rw [z7]
    refine retFu rfl fr0 _ rfl rfl (HK.out.set7 fr0 (.slice none 0 0)) ?_
    rw [fag0]
    exact .inl ⟨HPm.out.symm, rfl, below7 HB.out _ _ _ _ (Nat.le_refl _)⟩
  · rw [List.concat_eq_append] at hM1 HPm
    obtain ⟨gF, cap, rfl, hn, hm, hbg, hlt, hc, hz, hbk⟩ := hM1.own.last
    obtain ⟨f, pv⟩ := p
    obtain ⟨at_, ct, hpv, hfa⟩ := (hM1.own.tb (f, pv) (List.mem_append_right _ (List.mem_singleton.2 rfl))).fra
    have hpv' : pv = .slice at_ f.T.length ct := hpv
    subst hpv'
    unfold maxLen at hm
    have HL := hide_ (last_some g gF Q.length cap _ _ wa (by omega) (hide_ hM1.box))
    have i0 := hc 0 (by decide); have i1 := hc 1 (by decide); have i2 := hc 2 (by decide); have i3 := hc 3 (by decide); have i4 := hc 4 (by decide); have i5 := hc 5 (by decide); have i6 := hc 6 (by decide)
    simp [frc] at i0 i1 i2 i3 i4 i5 i6
    have HC := hide_ (with_any f at_ none f.T.length ct 0 0 wa.drew)
    have HK := hide_ k1
    clear k1 hM1 hc hz hbk hfa hn hm hbg hlt
    go_enter Try.func28, Try.ntmps28
    go_upto_region 1 with fail
    rw [← hwa]
    clear hwa
    go_wp2_with (go_at_call 33; refine HL.out.mono ?_; rintro e w' ⟨rfl, rfl⟩)
    refine HC.out.mono ?_
    rintro e w2 ⟨rfl, hB2⟩
    have hb2 : Below wa.heap.size wa w2 := below_to ((Below.refl wa.heap.size wa).drew) hB2
    have k2 := HK.out.later hb2
    have l0 := k2.cell 0; have l1 := k2.cell 1; have l2 := k2.cell 2; have l3 := k2.cell 3; have l4 := k2.cell 4; have l5 := k2.cell 5; have l6 := k2.cell 6
    have y0 := k2.frozen 0; have y1 := k2.frozen 1; have y2 := k2.frozen 2; have y3 := k2.frozen 3; have y4 := k2.frozen 4; have y5 := k2.frozen 5; have y6 := k2.frozen 6
    simp [frc, frz, fr0] at l0 l1 l2 l3 l4 l5 l6
    have HK2 := hide_ k2
    have HBa := hide_ (below_to HB.out hb2)
    clear k2 hb2 hB2
    go_wp2_with fail
    refine retFu rfl f _ rfl rfl (HK2.out.set7 f (.slice none 0 0)) ?_
    refine .inr ⟨Q.map (·.1), f, ?_, rfl, below7 HBa.out _ _ _ _ (Nat.le_refl _)⟩
    rw [← HPm.out, List.map_append]; rfl
/-- How many positions the last frame's table has. -/
def lastT (fs : List Fr) : List Int := match fs.getLast? with | none => [] | some f => f.T
theorem lastT_app (l : List Fr) (f : Fr) : lastT (l ++ [f]) = f.T := by simp [lastT]
theorem lastT_nil : lastT [] = [] := rfl
set_option maxRecDepth 100000 in
set_option maxHeartbeats 16000000 in
theorem slots_any (w : World) (B : Nat) (F : Nat → Prop) (g : Nat) (fs : List Fr) (m h : Int) (hS : Hid (Stk w B F g fs m h)) :
    Calls Try.prog 20 #[.pointer (some ⟨g, 0, none⟩)] w fun e w' => e = .returned (.int .i64 ((lastT fs).length : Int)) ∧ Below w.heap.size w w' := by
  obtain ⟨v, P, hM, hP, hF, hFl⟩ := hS.out
  have HPm := hide_ hP
  clear hS hF hFl hP
  rcases List.eq_nil_or_concat P with rfl | ⟨Q, p, rfl⟩
  · obtain ⟨av, cv, rfl, -⟩ := hM.own.slice
    have HL := hide_ (last_nil g av cv _ _ w (hide_ hM.box))
    have HE : Hid ((lastT fs).length = 0) := hide_ (by rw [← HPm.out]; rfl)
    rw [HE.out]
    clear hM
    go_enter Try.func20, Try.ntmps20
    go_wp2_with (go_at_call 33; refine HL.out.mono ?_; rintro e w' ⟨rfl, rfl⟩)
    go_ret
    exact ⟨rfl, Below.refl _ _⟩
  · rw [List.concat_eq_append] at hM HPm
    obtain ⟨gF, cap, rfl, hn, hm, hbg, hlt, hc, hz, hbk⟩ := hM.own.last
    obtain ⟨f, pv⟩ := p
    obtain ⟨at_, ct, hpv, hfa⟩ := (hM.own.tb (f, pv) (List.mem_append_right _ (List.mem_singleton.2 rfl))).fra
    have hpv' : pv = .slice at_ f.T.length ct := hpv
    subst hpv'
    unfold maxLen at hm
    have HL := hide_ (last_some g gF Q.length cap _ _ w (by omega) (hide_ hM.box))
    have HE : Hid (lastT fs = f.T) := hide_ (by rw [← HPm.out, List.map_append]; exact lastT_app _ _)
    rw [HE.out]
    have i6 := hc 6 (by decide)
    simp [frc] at i6
    clear hM hc hz hbk hfa hn hm hbg hlt
    go_enter Try.func20, Try.ntmps20
    go_wp2_with (go_at_call 33; refine HL.out.mono ?_; rintro e w' ⟨rfl, rfl⟩)
    go_ret
    exact ⟨rfl, (Below.refl _ _).drew⟩
/-- What Slot answers. -/
def SlotTo (w : World) (fs : List Fr) (k : Int) (e : Ending) (w' : World) : Prop :=
  (fs = [] ∧ e = .returned (.tuple #[.int .i64 0, .int .i64 220]) ∧ Below w.heap.size w w') ∨
  (fs ≠ [] ∧ ¬ (0 ≤ k ∧ k < (lastT fs).length) ∧ e = .returned (.tuple #[.int .i64 0, .int .i64 3]) ∧ Below w.heap.size w w') ∨
  (fs ≠ [] ∧ 0 ≤ k ∧ k < (lastT fs).length ∧ e = .returned (.tuple #[.int .i64 ((lastT fs).getD k.toNat 0), .int .i64 0]) ∧ Below w.heap.size w w')
set_option maxRecDepth 100000 in
set_option maxHeartbeats 16000000 in
theorem slot_any (w : World) (B : Nat) (F : Nat → Prop) (g : Nat) (fs : List Fr) (m h : Int) (k : Int) (hS : Hid (Stk w B F g fs m h)) :
    Calls Try.prog 24 #[.pointer (some ⟨g, 0, none⟩), .int .i64 k] w fun e w' => SlotTo w fs k e w' := by
  obtain ⟨v, P, hM, hP, hF, hFl⟩ := hS.out
  have HPm := hide_ hP
  clear hS hF hFl hP
  rcases List.eq_nil_or_concat P with rfl | ⟨Q, p, rfl⟩
  · obtain ⟨av, cv, rfl, -⟩ := hM.own.slice
    have HL := hide_ (last_nil g av cv _ _ w (hide_ hM.box))
    clear hM
    go_enter Try.func24, Try.ntmps24
    go_wp2_with (go_at_call 33; refine HL.out.mono ?_; rintro e w' ⟨rfl, rfl⟩)
    go_ret2
    exact .inl ⟨HPm.out.symm, rfl, Below.refl _ _⟩
  · rw [List.concat_eq_append] at hM HPm
    obtain ⟨gF, cap, rfl, hn, hm, hbg, hlt, hc, hz, hbk⟩ := hM.own.last
    obtain ⟨f, pv⟩ := p
    obtain ⟨at_, ct, hpv, hfa⟩ := (hM.own.tb (f, pv) (List.mem_append_right _ (List.mem_singleton.2 rfl))).fra
    have hpv' : pv = .slice at_ f.T.length ct := hpv
    subst hpv'
    unfold maxLen at hm
    have HL := hide_ (last_some g gF Q.length cap _ _ w (by omega) (hide_ hM.box))
    have HE : Hid (lastT fs = f.T) := hide_ (by rw [← HPm.out, List.map_append]; exact lastT_app _ _)
    have HN : Hid (fs ≠ []) := hide_ (by rw [← HPm.out]; simp)
    have i6 := hc 6 (by decide)
    simp [frc] at i6
    have HFA := hide_ hfa
    have hml := hfa.2.2
    unfold maxLen at hml
    clear hM hc hz hbk hfa hn hm hbg hlt
    by_cases h0 : 0 ≤ k
    · by_cases h1 : k < f.T.length
      · obtain ⟨j, rfl⟩ := Int.eq_ofNat_of_zero_le h0
        have hj : j < f.T.length := by omega
        obtain ⟨b, o, rfl, hb, hcl⟩ := Row.open HFA.out.1 (show 0 < f.T.length by omega)
        have hcell := hcl j hj
        obtain ⟨y, hy⟩ : ∃ y, f.T.getD j 0 = y := ⟨_, rfl⟩
        have HY := hide_ hy
        rw [hy] at hcell
        have hlo : decide ((j : Int) < 0) = false := decide_eq_false (by omega)
        have hhi : decide (f.T.length ≤ j) = false := decide_eq_false (by omega)
        clear hcl hy h0
        go_enter Try.func24, Try.ntmps24
        go_wp2_with (go_at_call 33; refine HL.out.mono ?_; rintro e w' ⟨rfl, rfl⟩)
        go_ret2
        exact .inr (.inr ⟨HN.out, by omega, by rw [HE.out]; exact h1, by rw [HE.out, Int.toNat_natCast, HY.out]; rfl, (Below.refl _ _).drew⟩)
      · have hlo : decide (k < 0) = false := decide_eq_false (by omega)
        have hhi : decide ((f.T.length : Int) ≤ k) = true := decide_eq_true (by omega)
        have HX : Hid (¬ (0 ≤ k ∧ k < (lastT fs).length)) := hide_ (by rw [HE.out]; omega)
        clear h0 h1
        go_enter Try.func24, Try.ntmps24
        go_wp2_with (go_at_call 33; refine HL.out.mono ?_; rintro e w' ⟨rfl, rfl⟩)
        go_ret2
        exact .inr (.inl ⟨HN.out, HX.out, rfl, (Below.refl _ _).drew⟩)
    · have hlo : decide (k < 0) = true := decide_eq_true (by omega)
      have HX : Hid (¬ (0 ≤ k ∧ k < (lastT fs).length)) := hide_ (by omega)
      clear h0
      go_enter Try.func24, Try.ntmps24
      go_wp2_with (go_at_call 33; refine HL.out.mono ?_; rintro e w' ⟨rfl, rfl⟩)
      go_ret2
      exact .inr (.inl ⟨HN.out, HX.out, rfl, (Below.refl _ _).drew⟩)
end Go.Proofs.Ytcmkdkocponpiaa

/- Frames: Set, Go, Mark. -/
namespace Go.Proofs.Ytcmkdkocponpiaa
open Go.RowKit
set_option linter.unusedVariables false

/-- What Set answers. -/
def SetTo (w : World) (B : Nat) (F : Nat → Prop) (g : Nat) (fs : List Fr) (m h : Int) (f : Fr) (e : Ending) (w' : World) : Prop :=
  (fs = [] ∧ e = .returned (.int .i64 220) ∧ StkTo w B F w' g fs m h) ∨
  (fs ≠ [] ∧ frB f = false ∧ e = .returned (.int .i64 3) ∧ StkTo w B F w' g fs m h) ∨
  (∃ l y, fs = l ++ [y] ∧ frB f = true ∧ e = .returned (.int .i64 0) ∧ StkTo w B F w' g (l ++ [f]) m h)
theorem set_last {α : Type} (l : List α) (x y : α) : (l ++ [x]).set l.length y = l ++ [y] := by
  rw [List.set_append_right _ _ (Nat.le_refl _), Nat.sub_self]; rfl
/-- The cells of the last frame. -/
theorem StM.c7 {w : World} {B g gF cap : Nat} {Q : List (Fr × Value)} {f : Fr} {v : Value} {m h : Int} (H : StM w B g (.slice (some ⟨gF, 0, none⟩) (Q.length + 1) cap) (Q ++ [(f, v)]) m h) :
    (w.cell? ⟨gF, Q.length * 7, none⟩ = some (.int .i64 f.r) ∧ w.cell? ⟨gF, Q.length * 7 + 1, none⟩ = some (.int .i64 f.a) ∧ w.cell? ⟨gF, Q.length * 7 + 2, none⟩ = some (.int .i64 f.b) ∧ w.cell? ⟨gF, Q.length * 7 + 3, none⟩ = some (.int .i64 f.e) ∧ w.cell? ⟨gF, Q.length * 7 + 4, none⟩ = some (.int .i64 f.n) ∧ w.cell? ⟨gF, Q.length * 7 + 5, none⟩ = some (.int .i64 f.x) ∧ w.cell? ⟨gF, Q.length * 7 + 6, none⟩ = some v) ∧ ∀ o, w.frozen? ⟨gF, o, none⟩ = false := by
  obtain ⟨gF', cap', he, -, -, -, -, hc, hz, -⟩ := H.own.last
  injection he with he1 he2 he3
  injection he1 with he1
  injection he1 with he1 _ _
  subst he1
  exact ⟨⟨hc 0 (by decide), hc 1 (by decide), hc 2 (by decide), hc 3 (by decide), hc 4 (by decide), hc 5 (by decide), hc 6 (by decide)⟩, hz⟩
/-- The last frame is another one. -/
theorem StM.setLast {w : World} {B g : Nat} {F : Nat → Prop} {gF cap : Nat} {Q : List (Fr × Value)} {p : Fr × Value} {m h : Int} {w0 : World} (H : StM w B g (.slice (some ⟨gF, 0, none⟩) (Q.length + 1) cap) (Q ++ [p]) m h)
    (hu : Upd F w0 w) (hF : ∀ k, skB g (.slice (some ⟨gF, 0, none⟩) (Q.length + 1) cap) (Q ++ [p]) k → F k) (hFl : ∀ k, F k → B ≤ k ∧ k < w0.heap.size) (hB0 : B ≤ w0.heap.size)
    (f : Fr) (v : Value) (hv : IOwn w B v f.T) (hn : ∀ k, v.ownBlock = some k → w0.heap.size ≤ k ∨ p.2.ownBlock = some k) (hf : frB f = true) :
    StkTo w0 B F (set7 w gF (Q.length * 7) f v) g (Q.map (·.1) ++ [f]) m h := by
  have hx : (Q ++ [p])[Q.length]? = some p := by simp
  have hFg : F gF := hF gF (.inr (.inl rfl))
  have hset := H.own.set hx f v hv (fun j q hj hq k h1 h2 => by
    rcases hn k h1 with h3 | h3
    · have := (hFl k (hF k (.inr (.inr ⟨q, List.mem_of_getElem? hq, h2⟩)))).2
      omega
    · exact pair_at (fun x y h k a b => h k b a) H.own.ap hx hq (fun e => hj e.symm) k h3 h2)
  rw [set_last] at hset
  have hg : Blk (set7 w gF (Q.length * 7) f v) g 71 [.slice (some ⟨gF, 0, none⟩) (Q.length + 1) cap, .int .i64 m, .int .i64 h] :=
    H.box.upd (upd7 w gF (Q.length * 7) f v) (fun e => by
      subst e
      exact H.own.rowNe H.box (by decide) rfl)
  have hM : StM (set7 w gF (Q.length * 7) f v) B g (.slice (some ⟨gF, 0, none⟩) (Q.length + 1) cap) (Q ++ [(f, v)]) m h :=
    ⟨hg, hset, H.bg, H.hm, by have := H.hl; simp at this ⊢; exact this, by have := H.hh; simp at this ⊢; exact this, fun q hq => by
      rcases List.mem_append.1 hq with hq | hq
      · exact H.rt q (List.mem_append_left _ hq)
      · simp only [List.mem_singleton] at hq
        subst hq
        exact hf⟩
  have hto := hM.to (hu.trans (upd7 w gF (Q.length * 7) f v) (fun k _ e => by subst e; exact hFg)) hB0 hFl (fun k hk => by
    rcases hk with hk | hk | ⟨q, hq, hk⟩
    · exact .inl (hF k (.inl hk))
    · exact .inl (hF k (.inr (.inl hk)))
    · rcases List.mem_append.1 hq with hq | hq
      · exact .inl (hF k (.inr (.inr ⟨q, List.mem_append_left _ hq, hk⟩)))
      · simp only [List.mem_singleton] at hq
        subst hq
        rcases hn k hk with h3 | h3
        · exact .inr h3
        · exact .inl (hF k (.inr (.inr ⟨p, List.mem_append_right _ (List.mem_singleton.2 rfl), h3⟩))))
  rw [List.map_append] at hto
  exact hto
set_option maxRecDepth 100000 in
set_option maxHeartbeats 16000000 in
theorem set_any (w : World) (B : Nat) (F : Nat → Prop) (g : Nat) (fs : List Fr) (m h : Int) (f : Fr) (a : Option Addr) (c : Nat) (hS : Hid (Stk w B F g fs m h)) (hA : Hid (FrA w f a c)) (hBw : B ≤ w.heap.size) :
    Calls Try.prog 18 #[.pointer (some ⟨g, 0, none⟩), .agg #[.int .i64 f.r, .int .i64 f.a, .int .i64 f.b, .int .i64 f.e, .int .i64 f.n, .int .i64 f.x, .slice a f.T.length c]] w fun e w' => SetTo w B F g fs m h f e w' := by
  obtain ⟨v, P, hM, hP, hF, hFl⟩ := hS.out
  have HS := hS
  obtain ⟨w1, hw1⟩ : ∃ wx, wx = w.alloc (.cells #[.int .i64 f.r, .int .i64 f.a, .int .i64 f.b, .int .i64 f.e, .int .i64 f.n, .int .i64 f.x, .slice a f.T.length c] 39) := ⟨_, rfl⟩
  have hB1 : Below w.heap.size w w1 := by rw [hw1]; exact below1 _ _
  have k1 : Blk w1 w.heap.size 39 (frc (f, .slice a f.T.length c)) := by rw [hw1]; exact Blk.newA w _ _
  have HPm := hide_ hP
  have HF := hide_ hF
  have HFl := hide_ hFl
  have hM1 := hM.later hB1
  have HK1 := hide_ k1
  have HB1 := hide_ hB1
  have HA1 := hide_ (hA.out.later hB1)
  have j0 := k1.cell 0; have j1 := k1.cell 1; have j2 := k1.cell 2; have j3 := k1.cell 3; have j4 := k1.cell 4; have j5 := k1.cell 5; have j6 := k1.cell 6
  simp [frc] at j0 j1 j2 j3 j4 j5 j6
  clear hS hF hFl hM hP k1 hB1 hA
  rcases List.eq_nil_or_concat P with rfl | ⟨Q, p, rfl⟩
  · obtain ⟨av, cv, rfl, -⟩ := hM1.own.slice
    have HL := hide_ (last_nil g av cv _ _ w1 (hide_ hM1.box))
    clear hM1
    go_enter Try.func18, Try.ntmps18
    go_upto_region 1 with fail
    rw [← hw1]
    clear hw1
    go_wp2_with (go_at_call 33; refine HL.out.mono ?_; rintro e w' ⟨rfl, rfl⟩)
    go_ret
    exact .inl ⟨HPm.out.symm, rfl, HS.out.same HB1.out⟩
  · rw [List.concat_eq_append] at hM1 HPm HF
    obtain ⟨gF, cap, rfl, hn, hm, hbg, hlt, hc, hz, hbk⟩ := hM1.own.last
    unfold maxLen at hm
    have HL := hide_ (last_some g gF Q.length cap _ _ w1 (by omega) (hide_ hM1.box))
    have HN : Hid (fs ≠ []) := hide_ (by rw [← HPm.out]; simp)
    have HM1 := hide_ hM1
    clear hM1 hc hz hbk hn hm hbg hlt
    go_enter Try.func18, Try.ntmps18
    go_upto_region 1 with fail
    rw [← hw1]
    clear hw1
    go_wp2_with (go_at_call 33; refine HL.out.mono ?_; rintro e w' ⟨rfl, rfl⟩)
    refine (right_any f a c _ (hide_ ⟨HA1.out.1.drew, HA1.out.2⟩)).mono ?_
    rintro e w2 ⟨rfl, hB2⟩
    have hB12 : Below w1.heap.size w1 w2 := below_to ((Below.refl w1.heap.size w1).drew) hB2
    cases hf : frB f with
    | false =>
      have HFf := hide_ hf
      have HB2 := hide_ (below_to HB1.out hB12)
      clear hf hB2 hB12
      go_wp2_with fail
      go_ret
      exact .inr (.inl ⟨HN.out, HFf.out, rfl, HS.out.same HB2.out⟩)
    | true =>
      have HFf := hide_ hf
      have HT : Hid (f.T.length ≤ 1048576) := hide_ (frB_is hf).1
      have HA2 := hide_ (HA1.out.later hB12)
      have HC := hide_ (copied_any f a c w2 HA2 (by have := HT.out; omega))
      have k2 := HK1.out.later hB12
      have j0 := k2.cell 0; have j1 := k2.cell 1; have j2 := k2.cell 2; have j3 := k2.cell 3; have j4 := k2.cell 4; have j5 := k2.cell 5; have j6 := k2.cell 6
      simp [frc] at j0 j1 j2 j3 j4 j5 j6
      have HM2 := hide_ (HM1.out.later hB12)
      have HB2 := hide_ (below_to HB1.out hB12)
      clear hf hB2 hB12 k2
      go_wp2_with fail
      refine HC.out.mono ?_
      rintro e w3 ⟨a3, c3, rfl, HI3, HB3⟩
      have hM3 := HM2.out.later HB3.out
      have HM3 := hide_ hM3
      obtain ⟨gF', cap', he, -, -, -, -, hc, hz, -⟩ := hM3.own.last
      injection he with he1 he2 he3
      injection he1 with he1
      injection he1 with he1 _ _
      subst he1
      have i0 := hc 0 (by decide); have i1 := hc 1 (by decide); have i2 := hc 2 (by decide); have i3 := hc 3 (by decide); have i4 := hc 4 (by decide); have i5 := hc 5 (by decide); have i6 := hc 6 (by decide)
      have y0 := hz (Q.length * 7); have y1 := hz (Q.length * 7 + 1); have y2 := hz (Q.length * 7 + 2); have y3 := hz (Q.length * 7 + 3); have y4 := hz (Q.length * 7 + 4); have y5 := hz (Q.length * 7 + 5); have y6 := hz (Q.length * 7 + 6)
      simp [frc] at i0 i1 i2 i3 i4 i5 i6
      clear hM3 hc hz he3 j0 j1 j2 j3 j4 j5 j6
      go_wp2_with fail
      go_ret
      refine .inr (.inr ⟨Q.map (·.1), p.1, by rw [← HPm.out, List.map_append]; rfl, HFf.out, rfl, ?_⟩)
      have hs2 : w.heap.size ≤ w2.heap.size := HB2.out.size
      exact HM3.out.setLast (Upd.of_below (below_to HB2.out HB3.out)) HF.out HFl.out hBw f (.slice a3 f.T.length c3) (own_base HI3.out (by omega)) (fun k hk => .inl (by have := (HI3.out.lies hk).1; omega)) HFf.out
end Go.Proofs.Ytcmkdkocponpiaa

/- Frames: Pop. -/
namespace Go.Proofs.Ytcmkdkocponpiaa
open Go.RowKit
set_option linter.unusedVariables false

/-- What Pop answers. -/
def PopTo (w : World) (B : Nat) (F : Nat → Prop) (g : Nat) (fs : List Fr) (m h : Int) (e : Ending) (w' : World) : Prop :=
  (fs = [] ∧ e = .returned (.tuple #[.agg #[.int .i64 0, .int .i64 0, .int .i64 0, .int .i64 0, .int .i64 0, .int .i64 0, .slice none 0 0], .int .i64 220]) ∧ Hid (Stk w' B F g fs m h) ∧ Hid (Upd F w w')) ∨
  (∃ l f a c, fs = l ++ [f] ∧ e = .returned (.tuple #[.agg #[.int .i64 f.r, .int .i64 f.a, .int .i64 f.b, .int .i64 f.e, .int .i64 f.n, .int .i64 f.x, .slice a f.T.length c], .int .i64 0]) ∧ Hid (IOwn w' w.heap.size (.slice a f.T.length c) f.T) ∧ Hid (Stk w' B F g l m h) ∧ Hid (Upd F w w'))
/-- The last frame goes: its cells are zero, the list is one shorter. -/
theorem StM.popLast {w : World} {B g gF cap : Nat} {Q : List (Fr × Value)} {p : Fr × Value} {m h : Int} (H : StM w B g (.slice (some ⟨gF, 0, none⟩) (Q.length + 1) cap) (Q ++ [p]) m h) :
    StM ((set7 w gF (Q.length * 7) fr0 (.slice none 0 0)).setCell ⟨g, 0, none⟩ (.slice (some ⟨gF, 0, none⟩) Q.length cap)) B g (.slice (some ⟨gF, 0, none⟩) Q.length cap) Q m h := by
  have hx : (Q ++ [p])[Q.length]? = some p := by simp
  have hset := H.own.set hx fr0 (.slice none 0 0) (IOwn.nil w B) (fun j q hj hq k h1 h2 => by cases h1)
  rw [set_last] at hset
  have hin := hset.init
  have hg : Blk (set7 w gF (Q.length * 7) fr0 (.slice none 0 0)) g 71 [.slice (some ⟨gF, 0, none⟩) (Q.length + 1) cap, .int .i64 m, .int .i64 h] :=
    H.box.upd (upd7 w gF (Q.length * 7) fr0 _) (fun e => by
      subst e
      exact H.own.rowNe H.box (by decide) rfl)
  have hu := (Upd.refl (fun k => k = g) (set7 w gF (Q.length * 7) fr0 (.slice none 0 0))).set ⟨g, 0, none⟩ (.slice (some ⟨gF, 0, none⟩) Q.length cap) (.inl rfl)
  refine ⟨hg.set 0 _, hin.upd hu (fun k hk e => ?_) (fun q hq k hk e => ?_), H.bg, H.hm, ?_, ?_, fun q hq => H.rt q (List.mem_append_left _ hq)⟩
  · subst e; exact hin.rowNe hg (by decide) hk
  · subst e; exact hin.tbNe hg (by decide) q hq hk
  · have := H.hl; simp at this; omega
  · have := H.hh; simp at this; omega
set_option maxRecDepth 100000 in
set_option maxHeartbeats 16000000 in
theorem pop_any (w : World) (B : Nat) (F : Nat → Prop) (g : Nat) (fs : List Fr) (m h : Int) (hS : Hid (Stk w B F g fs m h)) (hBw : B ≤ w.heap.size) :
    Calls Try.prog 14 #[.pointer (some ⟨g, 0, none⟩)] w fun e w' => PopTo w B F g fs m h e w' := by
  have HS := hS
  obtain ⟨wa, hwa⟩ : ∃ wx, wx = w.alloc (.cells #[.int .i64 0, .int .i64 0, .int .i64 0, .int .i64 0, .int .i64 0, .int .i64 0, .slice none 0 0] 39) := ⟨_, rfl⟩
  have hB : Below w.heap.size w wa := by rw [hwa]; exact below1 _ _
  have k1 : Blk wa w.heap.size 39 (frc frz) := by rw [hwa]; exact Blk.newA w _ _
  have HSa := hide_ (hS.out.later hB)
  have HT := hide_ (top_any wa B F g fs m h HSa)
  have HB := hide_ hB
  have HK := hide_ k1
  clear hS hB k1
  go_enter Try.func14, Try.ntmps14
  go_upto_region 1 with fail
  rw [← hwa]
  clear hwa
  go_wp2_with fail
  refine HT.out.mono ?_
  rintro e w2 hTop
  rcases hTop with ⟨hnil, rfl, hB2⟩ | ⟨l, f, a2, c2, hfs, rfl, HI2, hB2⟩
  · have HN := hide_ hnil
    have k2 := (HK.out.later hB2).alloc (.cells #[.int .i64 0, .int .i64 0, .int .i64 0, .int .i64 0, .int .i64 0, .int .i64 0, .slice none 0 0] 39)
    have l0 := k2.cell 0; have l1 := k2.cell 1; have l2 := k2.cell 2; have l3 := k2.cell 3; have l4 := k2.cell 4; have l5 := k2.cell 5; have l6 := k2.cell 6
    have y0 := k2.frozen 0; have y1 := k2.frozen 1; have y2 := k2.frozen 2; have y3 := k2.frozen 3; have y4 := k2.frozen 4; have y5 := k2.frozen 5; have y6 := k2.frozen 6
    simp [frc, frz, fr0] at l0 l1 l2 l3 l4 l5 l6
    have HK2 := hide_ k2
    have HB3 := hide_ ((below_to HB.out hB2).alloc (below_to HB.out hB2).size (.cells #[.int .i64 0, .int .i64 0, .int .i64 0, .int .i64 0, .int .i64 0, .int .i64 0, .slice none 0 0] 39))
    obtain ⟨w3, hw3⟩ : ∃ wx, wx = w2.alloc (.cells #[.int .i64 0, .int .i64 0, .int .i64 0, .int .i64 0, .int .i64 0, .int .i64 0, .slice none 0 0] 39) := ⟨_, rfl⟩
    rw [← hw3] at HK2 HB3 l0 l1 l2 l3 l4 l5 l6 y0 y1 y2 y3 y4 y5 y6
    clear hnil k2 hB2
    go_upto_region 2 with fail
    rw [← hw3]
    clear hw3
    go_wp2_with fail
    rw [z7]
    have hb := below7 HB3.out w.heap.size 0 fr0 (.slice none 0 0) (Nat.le_refl _)
    refine retFu rfl fr0 _ rfl rfl (HK2.out.set7 fr0 (.slice none 0 0)) ?_
    rw [fag0]
    exact .inl ⟨HN.out, rfl, hide_ (HS.out.later hb), hide_ (Upd.of_below hb)⟩
  · obtain ⟨v, P, hM, hP, hF, hFl⟩ := HSa.out
    have HFs := hide_ hfs
    have HF := hide_ hF
    have HFl := hide_ hFl
    rcases List.eq_nil_or_concat P with rfl | ⟨Q, p, rfl⟩
    · exfalso
      rw [hfs] at hP
      simp at hP
    rw [List.concat_eq_append] at hM hP hF HF
    obtain ⟨pf, pv⟩ := p
    have hPQ : Q.map (·.1) = l ∧ pf = f := by
      rw [hfs, List.map_append] at hP
      have h1 := List.append_inj' hP rfl
      exact ⟨h1.1, by simpa using h1.2⟩
    obtain ⟨hQl, rfl⟩ := hPQ
    obtain ⟨gF, cap, rfl, hn, hm, hbg, hlt, -, -, -⟩ := hM.own.last
    unfold maxLen at hm
    obtain ⟨w3, hw3⟩ : ∃ wx, wx = w2.alloc (.cells #[.int .i64 pf.r, .int .i64 pf.a, .int .i64 pf.b, .int .i64 pf.e, .int .i64 pf.n, .int .i64 pf.x, .slice a2 pf.T.length c2] 39) := ⟨_, rfl⟩
    have hB3 : Below w2.heap.size w2 w3 := by rw [hw3]; exact below1 _ _
    have kx : Blk w3 w2.heap.size 39 (frc (pf, .slice a2 pf.T.length c2)) := by rw [hw3]; exact Blk.newA w2 _ _
    have hM3 := (hM.later hB2).later hB3
    have hK3 := (HK.out.later hB2).later hB3
    have hI3 := HI2.out.later hB3
    have HL := hide_ (last_some g gF Q.length cap _ _ w3 (by omega) (hide_ hM3.box))
    obtain ⟨⟨i0, i1, i2, i3, i4, i5, i6⟩, hz⟩ := hM3.c7
    have y0 := hz (Q.length * 7); have y1 := hz (Q.length * 7 + 1); have y2 := hz (Q.length * 7 + 2); have y3 := hz (Q.length * 7 + 3); have y4 := hz (Q.length * 7 + 4); have y5 := hz (Q.length * 7 + 5); have y6 := hz (Q.length * 7 + 6)
    have HM3 := hide_ hM3
    have HKx := hide_ kx
    have HK3 := hide_ hK3
    have HI3 := hide_ hI3
    have HQl := hide_ hQl
    have HBw3 := hide_ (below_to (below_to HB.out hB2) hB3)
    have hsw : w.heap.size < wa.heap.size := HK.out.lt
    have hsz : wa.heap.size ≤ w2.heap.size := hB2.size
    have hgw : ∀ k, skB g (.slice (some ⟨gF, 0, none⟩) (Q.length + 1) cap) (Q ++ [(pf, pv)]) k → k < w.heap.size := fun k hk => by
      obtain ⟨v', P', hM', hP', hF', hFl'⟩ := HS.out
      exact (hFl' k (hF k hk)).2
    have hg1 : g < w.heap.size := hgw g (.inl rfl)
    have hg2 : gF < w.heap.size := hgw gF (.inr (.inl rfl))
    have HB2 := hide_ hB2
    have HGW := hide_ hgw
    have hqc : Q.length ≤ cap := by omega
    clear hfs hP hF hFl hM hM3 hK3 hI3 hz kx hB3 hQl hB2 hn hbg hlt hgw
    go_upto_region 2 with fail
    rw [← hw3]
    clear hw3
    go_wp2_with (go_at_call 33; refine HL.out.mono ?_; rintro e w' ⟨rfl, rfl⟩)
    rw [z7o]
    have hP4 := HM3.out.popLast
    have hu1 := upd7 w3 gF (Q.length * 7) fr0 (.slice none 0 0)
    have hgne : ¬ g = gF := fun e => by
      subst e
      exact HM3.out.own.rowNe HM3.out.box (by decide) rfl
    have kg4 := HM3.out.box.upd hu1 hgne
    have kx4 := HKx.out.upd hu1 (show ¬ w2.heap.size = gF by omega)
    have kr4 := HK3.out.upd hu1 (show ¬ w.heap.size = gF by omega)
    obtain ⟨w4, hw4⟩ : ∃ w4, w4 = set7 w3 gF (Q.length * 7) fr0 (.slice none 0 0) := ⟨_, rfl⟩
    rw [← hw4] at hP4 hu1 kg4 kx4 kr4
    rw [← hw4]
    have hU4 : Upd F w w4 := ((Upd.of_below HBw3.out).trans hu1 (fun k _ e => by subst e; exact HF.out _ (.inr (.inl rfl))))
    have g0 := kg4.cell 0; have gz := kg4.frozen 0
    simp at g0
    have ng1 : ¬ w2.heap.size = g := by omega
    have ng2 : ¬ w.heap.size = g := by omega
    have hI4 := (HI3.out.upd hu1 (fun k hk e => by have := (HI3.out.lies hk).1; omega))
    have kx5 := kx4.other ⟨g, 0, none⟩ (.slice (some ⟨gF, 0, none⟩) Q.length cap) ng1
    have kr5 := kr4.other ⟨g, 0, none⟩ (.slice (some ⟨gF, 0, none⟩) Q.length cap) ng2
    have hu2 := (Upd.refl (fun k => k = g) w4).set ⟨g, 0, none⟩ (.slice (some ⟨gF, 0, none⟩) Q.length cap) (.inl rfl)
    have hI5 := hI4.upd hu2 (fun k hk e => by have := (HI3.out.lies hk).1; omega)
    have hU5 := hU4.trans hu2 (fun k _ e => by subst e; exact HF.out _ (.inl rfl))
    have x0 := kx5.cell 0; have x1 := kx5.cell 1; have x2 := kx5.cell 2; have x3 := kx5.cell 3; have x4 := kx5.cell 4; have x5 := kx5.cell 5; have x6 := kx5.cell 6
    have l0 := kr5.cell 0; have l1 := kr5.cell 1; have l2 := kr5.cell 2; have l3 := kr5.cell 3; have l4 := kr5.cell 4; have l5 := kr5.cell 5; have l6 := kr5.cell 6
    have z0 := kr5.frozen 0; have z1 := kr5.frozen 1; have z2 := kr5.frozen 2; have z3 := kr5.frozen 3; have z4 := kr5.frozen 4; have z5 := kr5.frozen 5; have z6 := kr5.frozen 6
    simp [frc, frz, fr0] at x0 x1 x2 x3 x4 x5 x6 l0 l1 l2 l3 l4 l5 l6
    have HP4 := hide_ hP4
    have HI5 := hide_ hI5
    have HU5 := hide_ hU5
    have HKr := hide_ kr5
    have hw := i64w (Q.length : Int) (by omega)
    clear hP4 hu1 kg4 kx4 kr4 hw4 hU4 hI4 kx5 kr5 hu2 hI5 hU5 i0 i1 i2 i3 i4 i5 i6 y0 y1 y2 y3 y4 y5 y6 hgne
    go_region
    go_wp2_with fail
    rw [s7]
    have hk7 := HKr.out.set7 pf (.slice a2 pf.T.length c2)
    have hu7 := upd7 (w4.setCell ⟨g, 0, none⟩ (.slice (some ⟨gF, 0, none⟩) Q.length cap)) w.heap.size 0 pf (.slice a2 pf.T.length c2)
    have hlt5 := HKr.out.lt
    have hi6 : IOwn (set7 (w4.setCell ⟨g, 0, none⟩ (.slice (some ⟨gF, 0, none⟩) Q.length cap)) w.heap.size 0 pf (.slice a2 pf.T.length c2)) w.heap.size (.slice a2 pf.T.length c2) pf.T :=
      (IOwn.upd (own_base HI5.out (by omega)) hu7 (fun k hk e => by have := (HI3.out.lies hk).1; omega))
    have hsub : ∀ k, skB g (.slice (some ⟨gF, 0, none⟩) Q.length cap) Q k → skB g (.slice (some ⟨gF, 0, none⟩) (Q.length + 1) cap) (Q ++ [(pf, pv)]) k := fun k hk => by
      rcases hk with hk | hk | ⟨q, hq, hk⟩
      · exact .inl hk
      · exact .inr (.inl hk)
      · exact .inr (.inr ⟨q, List.mem_append_left _ hq, hk⟩)
    have hm6 := HP4.out.upd hu7 (fun k hk e => by have := HGW.out k (hsub k hk); omega)
    have hu6 : Upd F w (set7 (w4.setCell ⟨g, 0, none⟩ (.slice (some ⟨gF, 0, none⟩) Q.length cap)) w.heap.size 0 pf (.slice a2 pf.T.length c2)) := HU5.out.trans hu7 (fun k hk e => by omega)
    have hs6 : Stk (set7 (w4.setCell ⟨g, 0, none⟩ (.slice (some ⟨gF, 0, none⟩) Q.length cap)) w.heap.size 0 pf (.slice a2 pf.T.length c2)) B F g l m h :=
      ⟨_, Q, hm6, HQl.out, fun k hk => HF.out k (hsub k hk), fun k hk => ⟨(HS.out.lt hk).1, Nat.lt_of_lt_of_le (HS.out.lt hk).2 hu6.size⟩⟩
    obtain ⟨w6, hw6⟩ : ∃ w6, w6 = set7 (w4.setCell ⟨g, 0, none⟩ (.slice (some ⟨gF, 0, none⟩) Q.length cap)) w.heap.size 0 pf (.slice a2 pf.T.length c2) := ⟨_, rfl⟩
    rw [← hw6] at hk7 hi6 hu6 hs6
    rw [← hw6]
    have hd : Below w6.heap.size w6 w6.drew.drew := (Below.refl _ _).drew.drew
    refine retFu rfl pf _ rfl rfl (hk7.later hd) ?_
    exact .inr ⟨l, pf, a2, c2, HFs.out, rfl, hide_ (hi6.later hd), hide_ (hs6.later hd), hide_ (hu6.then hd)⟩
end Go.Proofs.Ytcmkdkocponpiaa
