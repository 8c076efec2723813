import Derived.Test.YtcmkdkocponpiaaPart24
import Derived.Test.YtcmkdkocponpiaaPart20

/- mortiselaw22: plays: tells, saves, loads, nothing. -/
namespace Go.Proofs.Ytcmkdkocponpiaa
open Go.RowKit
set_option linter.unusedVariables false

set_option maxRecDepth 100000 in
set_option maxHeartbeats 16000000 in
theorem plays_tells (B bt : Nat) (p q : Nat → Value) (xs : Nat → Option Sk) (N : Nat) (S : Nat → Nat → Prop) (wh : Bool) (f : Fr) (a : Option Addr) (c : Nat) (n : Int) (ab : Option Addr) (nb cb : Nat) (w : World) (hT : Hid (Tab B w bt p q xs xs N S)) (HFA : Hid (∀ w', Below B w w' → FrA w' f a c)) (hfc : f.T.length ≤ c) (hcm : c ≤ 9223372036854775807) (hN : N ≤ 780) (hx : ∀ j, j < 2 → ∃ y, xs j = some y) :
    Calls Try.prog 25 #[.pointer (some ⟨bt, 0, none⟩), .agg #[.int .i64 4, .bool wh, .int .i64 f.r, .int .i64 f.a, .int .i64 f.b, .int .i64 f.e, .int .i64 f.n, .int .i64 f.x, .slice a f.T.length c, .int .i64 n, .slice ab nb cb]] w fun e w' => e = .returned (.bool true) ∧ Hid (PlTo B w w' bt xs (N + 3)) := by
  have HBw := hide_ hT.out.base
  have HBd := hide_ hT.out.lt
  have HSk : Hid (∀ j k, S j k → B ≤ k ∧ k < w.heap.size ∧ k ≠ bt) := hide_ hT.out.ly
  obtain ⟨w1, hw1⟩ : ∃ wx, wx = w.alloc (.cells #[.int .i64 4, .bool wh, .int .i64 f.r, .int .i64 f.a, .int .i64 f.b, .int .i64 f.e, .int .i64 f.n, .int .i64 f.x, .slice a f.T.length c, .int .i64 n, .slice ab nb cb] 63) := ⟨_, rfl⟩
  have hB1 : Below w.heap.size w w1 := by rw [hw1]; exact below1 _ _
  have K1 : Hid (Blk w1 w.heap.size 63 [.int .i64 4, .bool wh, .int .i64 f.r, .int .i64 f.a, .int .i64 f.b, .int .i64 f.e, .int .i64 f.n, .int .i64 f.x, .slice a f.T.length c, .int .i64 n, .slice ab nb cb]) := hide_ (by rw [hw1]; exact Blk.newA w _ _)
  have HB1 := hide_ hB1
  have hCut := cut_any f a c w1 (hide_ (HFA.out w1 (hB1.mono HBw.out))) hfc hcm
  obtain ⟨tl, htl⟩ : ∃ tl, (f.T.take 300).length = tl := ⟨_, rfl⟩
  rw [htl] at hCut
  have HCut := hide_ hCut
  have HTl := hide_ htl
  clear hCut htl
  have o1 := K1.out.cell 1; have o2 := K1.out.cell 2; have o3 := K1.out.cell 3; have o4 := K1.out.cell 4; have o5 := K1.out.cell 5; have o6 := K1.out.cell 6; have o7 := K1.out.cell 7; have o8 := K1.out.cell 8
  simp at o1 o2 o3 o4 o5 o6 o7 o8
  clear hB1
  go_enter Try.func25, Try.ntmps25
  go_upto_region 2 with fail
  rw [← hw1]
  clear hw1
  go_upto_if 11 with fail
  go_cut [5] from 5 to 11 (fun x5 wc => x5 = .int .i64 (wN wh : Int) ∧ w1 = wc)
  case first =>
    cases wh with
    | true =>
      go_wp2_with fail
      go_meet
      case rel => exact ⟨rfl, rfl⟩
    | false =>
      go_wp2_with fail
      go_meet
      case rel => exact ⟨rfl, rfl⟩
  case rest =>
  obtain ⟨rfl, rfl⟩ := hcut
  have hi := wN_lt wh
  obtain ⟨i, hiw⟩ : ∃ i, wN wh = i := ⟨_, rfl⟩
  have HIw := hide_ hiw
  rw [hiw] at hi ⊢
  clear hiw o1
  have hi' : (i : Int) < 2 := by omega
  go_wp2_with fail
  refine HCut.out.mono ?_
  rintro e w2 ⟨rfl, hb2⟩
  have K2 := hide_ (K1.out.later hb2)
  have HB2 := hide_ (below_to HB1.out hb2)
  obtain ⟨w3, hw3⟩ : ∃ wx, wx = ((((((w2.setCell ⟨w.heap.size, 2, none⟩ (.int .i64 f.r)).setCell ⟨w.heap.size, 3, none⟩ (.int .i64 f.a)).setCell ⟨w.heap.size, 4, none⟩ (.int .i64 f.b)).setCell ⟨w.heap.size, 5, none⟩ (.int .i64 f.e)).setCell ⟨w.heap.size, 6, none⟩ (.int .i64 f.n)).setCell ⟨w.heap.size, 7, none⟩ (.int .i64 f.x)).setCell ⟨w.heap.size, 8, none⟩ (.slice a tl c) := ⟨_, rfl⟩
  have hu3 : Upd (fun k => k = w.heap.size) w2 w3 := by
    rw [hw3]
    exact (((((((Upd.refl (fun k => k = w.heap.size) w2).set ⟨w.heap.size, 2, none⟩ _ (.inl rfl)).set ⟨w.heap.size, 3, none⟩ _ (.inl rfl)).set ⟨w.heap.size, 4, none⟩ _ (.inl rfl)).set ⟨w.heap.size, 5, none⟩ _ (.inl rfl)).set ⟨w.heap.size, 6, none⟩ _ (.inl rfl)).set ⟨w.heap.size, 7, none⟩ _ (.inl rfl)).set ⟨w.heap.size, 8, none⟩ _ (.inl rfl)
  have K3 : Hid (Blk w3 w.heap.size 63 [.int .i64 4, .bool wh, .int .i64 f.r, .int .i64 f.a, .int .i64 f.b, .int .i64 f.e, .int .i64 f.n, .int .i64 f.x, .slice a tl c, .int .i64 n, .slice ab nb cb]) := hide_ (by
    have h := ((((((K2.out.set 2 (.int .i64 f.r)).set 3 (.int .i64 f.a)).set 4 (.int .i64 f.b)).set 5 (.int .i64 f.e)).set 6 (.int .i64 f.n)).set 7 (.int .i64 f.x)).set 8 (.slice a tl c)
    rw [hw3]
    simpa using h)
  have HB3 : Hid (Below w.heap.size w w3) := hide_ (HB2.out.trans (hu3.below w.heap.size HB2.out.size (fun k hk => by omega)))
  have z2 := K2.out.frozen 2; have z3 := K2.out.frozen 3; have z4 := K2.out.frozen 4; have z5 := K2.out.frozen 5; have z6 := K2.out.frozen 6; have z7 := K2.out.frozen 7; have z8 := K2.out.frozen 8
  clear o2 o3 o4 o5 o6 o7 o8
  have o2 := K2.out.cell 2; have o3 := K2.out.cell 3; have o4 := K2.out.cell 4; have o5 := K2.out.cell 5; have o6 := K2.out.cell 6; have o7 := K2.out.cell 7; have o8 := K2.out.cell 8
  simp at o2 o3 o4 o5 o6 o7 o8
  clear hb2 hu3 HCut K1 K2
  go_upto_region 5 with fail
  rw [← hw3]
  clear hw3 o2 o3 o4 o5 o6 o7 o8 z2 z3 z4 z5 z6 z7 z8
  have o0 := K3.out.cell 0; have o9 := K3.out.cell 9; have o10 := K3.out.cell 10
  simp at o0 o9 o10
  obtain ⟨y, hy⟩ := hx i hi
  have HTe := hide_ (tells_any B bt i p q xs N S y w3 (hide_ (hT.out.later HB3.out)) hi hy (by omega))
  clear hy
  go_wp2_with fail
  refine HTe.out.mono ?_
  rintro e w5 ⟨rfl, hp⟩
  have HP := hide_ (hp.out.from (HB3.out.mono HBw.out) (M := N + 3) (by omega))
  clear hp
  go_wp2_with fail
  go_ret
  exact ⟨rfl, HP⟩
set_option maxRecDepth 100000 in
set_option maxHeartbeats 16000000 in
theorem plays_save (B bt : Nat) (p q : Nat → Value) (xs : Nat → Option Sk) (N : Nat) (S : Nat → Nat → Prop) (wh : Bool) (f : Fr) (a : Option Addr) (c : Nat) (n : Int) (ab : Option Addr) (nb cb : Nat) (w : World) (hT : Hid (Tab B w bt p q xs xs N S)) (HFA : Hid (∀ w', Below B w w' → FrA w' f a c)) (hfc : f.T.length ≤ c) (hcm : c ≤ 9223372036854775807) (hN : N ≤ 780) (hx : ∀ j, j < 2 → ∃ y, xs j = some y) :
    Calls Try.prog 25 #[.pointer (some ⟨bt, 0, none⟩), .agg #[.int .i64 9, .bool wh, .int .i64 f.r, .int .i64 f.a, .int .i64 f.b, .int .i64 f.e, .int .i64 f.n, .int .i64 f.x, .slice a f.T.length c, .int .i64 n, .slice ab nb cb]] w fun e w' => e = .returned (.bool true) ∧ Hid (PlTo B w w' bt xs (N + 3)) := by
  have HBw := hide_ hT.out.base
  have HBd := hide_ hT.out.lt
  have HSk : Hid (∀ j k, S j k → B ≤ k ∧ k < w.heap.size ∧ k ≠ bt) := hide_ hT.out.ly
  obtain ⟨w1, hw1⟩ : ∃ wx, wx = w.alloc (.cells #[.int .i64 9, .bool wh, .int .i64 f.r, .int .i64 f.a, .int .i64 f.b, .int .i64 f.e, .int .i64 f.n, .int .i64 f.x, .slice a f.T.length c, .int .i64 n, .slice ab nb cb] 63) := ⟨_, rfl⟩
  have hB1 : Below w.heap.size w w1 := by rw [hw1]; exact below1 _ _
  have K1 : Hid (Blk w1 w.heap.size 63 [.int .i64 9, .bool wh, .int .i64 f.r, .int .i64 f.a, .int .i64 f.b, .int .i64 f.e, .int .i64 f.n, .int .i64 f.x, .slice a f.T.length c, .int .i64 n, .slice ab nb cb]) := hide_ (by rw [hw1]; exact Blk.newA w _ _)
  have HB1 := hide_ hB1
  have hCut := cut_any f a c w1 (hide_ (HFA.out w1 (hB1.mono HBw.out))) hfc hcm
  obtain ⟨tl, htl⟩ : ∃ tl, (f.T.take 300).length = tl := ⟨_, rfl⟩
  rw [htl] at hCut
  have HCut := hide_ hCut
  have HTl := hide_ htl
  clear hCut htl
  have o1 := K1.out.cell 1; have o2 := K1.out.cell 2; have o3 := K1.out.cell 3; have o4 := K1.out.cell 4; have o5 := K1.out.cell 5; have o6 := K1.out.cell 6; have o7 := K1.out.cell 7; have o8 := K1.out.cell 8
  simp at o1 o2 o3 o4 o5 o6 o7 o8
  clear hB1
  go_enter Try.func25, Try.ntmps25
  go_upto_region 2 with fail
  rw [← hw1]
  clear hw1
  go_upto_if 11 with fail
  go_cut [5] from 5 to 11 (fun x5 wc => x5 = .int .i64 (wN wh : Int) ∧ w1 = wc)
  case first =>
    cases wh with
    | true =>
      go_wp2_with fail
      go_meet
      case rel => exact ⟨rfl, rfl⟩
    | false =>
      go_wp2_with fail
      go_meet
      case rel => exact ⟨rfl, rfl⟩
  case rest =>
  obtain ⟨rfl, rfl⟩ := hcut
  have hi := wN_lt wh
  obtain ⟨i, hiw⟩ : ∃ i, wN wh = i := ⟨_, rfl⟩
  have HIw := hide_ hiw
  rw [hiw] at hi ⊢
  clear hiw o1
  have hi' : (i : Int) < 2 := by omega
  go_wp2_with fail
  refine HCut.out.mono ?_
  rintro e w2 ⟨rfl, hb2⟩
  have K2 := hide_ (K1.out.later hb2)
  have HB2 := hide_ (below_to HB1.out hb2)
  obtain ⟨w3, hw3⟩ : ∃ wx, wx = ((((((w2.setCell ⟨w.heap.size, 2, none⟩ (.int .i64 f.r)).setCell ⟨w.heap.size, 3, none⟩ (.int .i64 f.a)).setCell ⟨w.heap.size, 4, none⟩ (.int .i64 f.b)).setCell ⟨w.heap.size, 5, none⟩ (.int .i64 f.e)).setCell ⟨w.heap.size, 6, none⟩ (.int .i64 f.n)).setCell ⟨w.heap.size, 7, none⟩ (.int .i64 f.x)).setCell ⟨w.heap.size, 8, none⟩ (.slice a tl c) := ⟨_, rfl⟩
  have hu3 : Upd (fun k => k = w.heap.size) w2 w3 := by
    rw [hw3]
    exact (((((((Upd.refl (fun k => k = w.heap.size) w2).set ⟨w.heap.size, 2, none⟩ _ (.inl rfl)).set ⟨w.heap.size, 3, none⟩ _ (.inl rfl)).set ⟨w.heap.size, 4, none⟩ _ (.inl rfl)).set ⟨w.heap.size, 5, none⟩ _ (.inl rfl)).set ⟨w.heap.size, 6, none⟩ _ (.inl rfl)).set ⟨w.heap.size, 7, none⟩ _ (.inl rfl)).set ⟨w.heap.size, 8, none⟩ _ (.inl rfl)
  have K3 : Hid (Blk w3 w.heap.size 63 [.int .i64 9, .bool wh, .int .i64 f.r, .int .i64 f.a, .int .i64 f.b, .int .i64 f.e, .int .i64 f.n, .int .i64 f.x, .slice a tl c, .int .i64 n, .slice ab nb cb]) := hide_ (by
    have h := ((((((K2.out.set 2 (.int .i64 f.r)).set 3 (.int .i64 f.a)).set 4 (.int .i64 f.b)).set 5 (.int .i64 f.e)).set 6 (.int .i64 f.n)).set 7 (.int .i64 f.x)).set 8 (.slice a tl c)
    rw [hw3]
    simpa using h)
  have HB3 : Hid (Below w.heap.size w w3) := hide_ (HB2.out.trans (hu3.below w.heap.size HB2.out.size (fun k hk => by omega)))
  have z2 := K2.out.frozen 2; have z3 := K2.out.frozen 3; have z4 := K2.out.frozen 4; have z5 := K2.out.frozen 5; have z6 := K2.out.frozen 6; have z7 := K2.out.frozen 7; have z8 := K2.out.frozen 8
  clear o2 o3 o4 o5 o6 o7 o8
  have o2 := K2.out.cell 2; have o3 := K2.out.cell 3; have o4 := K2.out.cell 4; have o5 := K2.out.cell 5; have o6 := K2.out.cell 6; have o7 := K2.out.cell 7; have o8 := K2.out.cell 8
  simp at o2 o3 o4 o5 o6 o7 o8
  clear hb2 hu3 HCut K1 K2
  go_upto_region 5 with fail
  rw [← hw3]
  clear hw3 o2 o3 o4 o5 o6 o7 o8 z2 z3 z4 z5 z6 z7 z8
  have o0 := K3.out.cell 0; have o9 := K3.out.cell 9; have o10 := K3.out.cell 10
  simp at o0 o9 o10
  obtain ⟨y, hy⟩ := hx i hi
  have HTe := hide_ (saves_any B bt i p q xs N S y false w3 (hide_ (hT.out.later HB3.out)) hi hy (by omega))
  clear hy
  go_wp2_with fail
  refine HTe.out.mono ?_
  rintro e w5 ⟨rfl, hp⟩
  have HP := hide_ (hp.out.from (HB3.out.mono HBw.out) (M := N + 3) (by omega))
  clear hp
  go_wp2_with fail
  go_ret
  exact ⟨rfl, HP⟩
set_option maxRecDepth 100000 in
set_option maxHeartbeats 16000000 in
theorem plays_reload (B bt : Nat) (p q : Nat → Value) (xs : Nat → Option Sk) (N : Nat) (S : Nat → Nat → Prop) (wh : Bool) (f : Fr) (a : Option Addr) (c : Nat) (n : Int) (ab : Option Addr) (nb cb : Nat) (w : World) (hT : Hid (Tab B w bt p q xs xs N S)) (HFA : Hid (∀ w', Below B w w' → FrA w' f a c)) (hfc : f.T.length ≤ c) (hcm : c ≤ 9223372036854775807) (hN : N ≤ 780) (hx : ∀ j, j < 2 → ∃ y, xs j = some y) :
    Calls Try.prog 25 #[.pointer (some ⟨bt, 0, none⟩), .agg #[.int .i64 11, .bool wh, .int .i64 f.r, .int .i64 f.a, .int .i64 f.b, .int .i64 f.e, .int .i64 f.n, .int .i64 f.x, .slice a f.T.length c, .int .i64 n, .slice ab nb cb]] w fun e w' => e = .returned (.bool true) ∧ Hid (PlTo B w w' bt xs (N + 3)) := by
  have HBw := hide_ hT.out.base
  have HBd := hide_ hT.out.lt
  have HSk : Hid (∀ j k, S j k → B ≤ k ∧ k < w.heap.size ∧ k ≠ bt) := hide_ hT.out.ly
  obtain ⟨w1, hw1⟩ : ∃ wx, wx = w.alloc (.cells #[.int .i64 11, .bool wh, .int .i64 f.r, .int .i64 f.a, .int .i64 f.b, .int .i64 f.e, .int .i64 f.n, .int .i64 f.x, .slice a f.T.length c, .int .i64 n, .slice ab nb cb] 63) := ⟨_, rfl⟩
  have hB1 : Below w.heap.size w w1 := by rw [hw1]; exact below1 _ _
  have K1 : Hid (Blk w1 w.heap.size 63 [.int .i64 11, .bool wh, .int .i64 f.r, .int .i64 f.a, .int .i64 f.b, .int .i64 f.e, .int .i64 f.n, .int .i64 f.x, .slice a f.T.length c, .int .i64 n, .slice ab nb cb]) := hide_ (by rw [hw1]; exact Blk.newA w _ _)
  have HB1 := hide_ hB1
  have hCut := cut_any f a c w1 (hide_ (HFA.out w1 (hB1.mono HBw.out))) hfc hcm
  obtain ⟨tl, htl⟩ : ∃ tl, (f.T.take 300).length = tl := ⟨_, rfl⟩
  rw [htl] at hCut
  have HCut := hide_ hCut
  have HTl := hide_ htl
  clear hCut htl
  have o1 := K1.out.cell 1; have o2 := K1.out.cell 2; have o3 := K1.out.cell 3; have o4 := K1.out.cell 4; have o5 := K1.out.cell 5; have o6 := K1.out.cell 6; have o7 := K1.out.cell 7; have o8 := K1.out.cell 8
  simp at o1 o2 o3 o4 o5 o6 o7 o8
  clear hB1
  go_enter Try.func25, Try.ntmps25
  go_upto_region 2 with fail
  rw [← hw1]
  clear hw1
  go_upto_if 11 with fail
  go_cut [5] from 5 to 11 (fun x5 wc => x5 = .int .i64 (wN wh : Int) ∧ w1 = wc)
  case first =>
    cases wh with
    | true =>
      go_wp2_with fail
      go_meet
      case rel => exact ⟨rfl, rfl⟩
    | false =>
      go_wp2_with fail
      go_meet
      case rel => exact ⟨rfl, rfl⟩
  case rest =>
  obtain ⟨rfl, rfl⟩ := hcut
  have hi := wN_lt wh
  obtain ⟨i, hiw⟩ : ∃ i, wN wh = i := ⟨_, rfl⟩
  have HIw := hide_ hiw
  rw [hiw] at hi ⊢
  clear hiw o1
  have hi' : (i : Int) < 2 := by omega
  go_wp2_with fail
  refine HCut.out.mono ?_
  rintro e w2 ⟨rfl, hb2⟩
  have K2 := hide_ (K1.out.later hb2)
  have HB2 := hide_ (below_to HB1.out hb2)
  obtain ⟨w3, hw3⟩ : ∃ wx, wx = ((((((w2.setCell ⟨w.heap.size, 2, none⟩ (.int .i64 f.r)).setCell ⟨w.heap.size, 3, none⟩ (.int .i64 f.a)).setCell ⟨w.heap.size, 4, none⟩ (.int .i64 f.b)).setCell ⟨w.heap.size, 5, none⟩ (.int .i64 f.e)).setCell ⟨w.heap.size, 6, none⟩ (.int .i64 f.n)).setCell ⟨w.heap.size, 7, none⟩ (.int .i64 f.x)).setCell ⟨w.heap.size, 8, none⟩ (.slice a tl c) := ⟨_, rfl⟩
  have hu3 : Upd (fun k => k = w.heap.size) w2 w3 := by
    rw [hw3]
    exact (((((((Upd.refl (fun k => k = w.heap.size) w2).set ⟨w.heap.size, 2, none⟩ _ (.inl rfl)).set ⟨w.heap.size, 3, none⟩ _ (.inl rfl)).set ⟨w.heap.size, 4, none⟩ _ (.inl rfl)).set ⟨w.heap.size, 5, none⟩ _ (.inl rfl)).set ⟨w.heap.size, 6, none⟩ _ (.inl rfl)).set ⟨w.heap.size, 7, none⟩ _ (.inl rfl)).set ⟨w.heap.size, 8, none⟩ _ (.inl rfl)
  have K3 : Hid (Blk w3 w.heap.size 63 [.int .i64 11, .bool wh, .int .i64 f.r, .int .i64 f.a, .int .i64 f.b, .int .i64 f.e, .int .i64 f.n, .int .i64 f.x, .slice a tl c, .int .i64 n, .slice ab nb cb]) := hide_ (by
    have h := ((((((K2.out.set 2 (.int .i64 f.r)).set 3 (.int .i64 f.a)).set 4 (.int .i64 f.b)).set 5 (.int .i64 f.e)).set 6 (.int .i64 f.n)).set 7 (.int .i64 f.x)).set 8 (.slice a tl c)
    rw [hw3]
    simpa using h)
  have HB3 : Hid (Below w.heap.size w w3) := hide_ (HB2.out.trans (hu3.below w.heap.size HB2.out.size (fun k hk => by omega)))
  have z2 := K2.out.frozen 2; have z3 := K2.out.frozen 3; have z4 := K2.out.frozen 4; have z5 := K2.out.frozen 5; have z6 := K2.out.frozen 6; have z7 := K2.out.frozen 7; have z8 := K2.out.frozen 8
  clear o2 o3 o4 o5 o6 o7 o8
  have o2 := K2.out.cell 2; have o3 := K2.out.cell 3; have o4 := K2.out.cell 4; have o5 := K2.out.cell 5; have o6 := K2.out.cell 6; have o7 := K2.out.cell 7; have o8 := K2.out.cell 8
  simp at o2 o3 o4 o5 o6 o7 o8
  clear hb2 hu3 HCut K1 K2
  go_upto_region 5 with fail
  rw [← hw3]
  clear hw3 o2 o3 o4 o5 o6 o7 o8 z2 z3 z4 z5 z6 z7 z8
  have o0 := K3.out.cell 0; have o9 := K3.out.cell 9; have o10 := K3.out.cell 10
  simp at o0 o9 o10
  obtain ⟨y, hy⟩ := hx i hi
  have HTe := hide_ (saves_any B bt i p q xs N S y true w3 (hide_ (hT.out.later HB3.out)) hi hy (by omega))
  clear hy
  go_wp2_with fail
  refine HTe.out.mono ?_
  rintro e w5 ⟨rfl, hp⟩
  have HP := hide_ (hp.out.from (HB3.out.mono HBw.out) (M := N + 3) (by omega))
  clear hp
  go_wp2_with fail
  go_ret
  exact ⟨rfl, HP⟩
set_option maxRecDepth 100000 in
set_option maxHeartbeats 16000000 in
theorem plays_load (B bt : Nat) (p q : Nat → Value) (xs : Nat → Option Sk) (N : Nat) (S : Nat → Nat → Prop) (wh : Bool) (f : Fr) (a : Option Addr) (c : Nat) (n : Int) (ab : Option Addr) (nb cb : Nat) (w : World) (hT : Hid (Tab B w bt p q xs xs N S)) (HFA : Hid (∀ w', Below B w w' → FrA w' f a c)) (hfc : f.T.length ≤ c) (hcm : c ≤ 9223372036854775807) (hN : N ≤ 780) (hx : ∀ j, j < 2 → ∃ y, xs j = some y) (b : List Int) (hbl : b.length = nb) (HBR : Hid (∀ w', Below B w w' → Row .u8 w' ab b)) (hbn : ab = none → cb = 0) (hby : Hid (Bys b)) (hbc : nb ≤ cb) :
    Calls Try.prog 25 #[.pointer (some ⟨bt, 0, none⟩), .agg #[.int .i64 10, .bool wh, .int .i64 f.r, .int .i64 f.a, .int .i64 f.b, .int .i64 f.e, .int .i64 f.n, .int .i64 f.x, .slice a f.T.length c, .int .i64 n, .slice ab nb cb]] w fun e w' => e = .returned (.bool true) ∧ Hid (PlTo B w w' bt xs (N + 3)) := by
  have HBw := hide_ hT.out.base
  have HBd := hide_ hT.out.lt
  have HSk : Hid (∀ j k, S j k → B ≤ k ∧ k < w.heap.size ∧ k ≠ bt) := hide_ hT.out.ly
  obtain ⟨w1, hw1⟩ : ∃ wx, wx = w.alloc (.cells #[.int .i64 10, .bool wh, .int .i64 f.r, .int .i64 f.a, .int .i64 f.b, .int .i64 f.e, .int .i64 f.n, .int .i64 f.x, .slice a f.T.length c, .int .i64 n, .slice ab nb cb] 63) := ⟨_, rfl⟩
  have hB1 : Below w.heap.size w w1 := by rw [hw1]; exact below1 _ _
  have K1 : Hid (Blk w1 w.heap.size 63 [.int .i64 10, .bool wh, .int .i64 f.r, .int .i64 f.a, .int .i64 f.b, .int .i64 f.e, .int .i64 f.n, .int .i64 f.x, .slice a f.T.length c, .int .i64 n, .slice ab nb cb]) := hide_ (by rw [hw1]; exact Blk.newA w _ _)
  have HB1 := hide_ hB1
  have hCut := cut_any f a c w1 (hide_ (HFA.out w1 (hB1.mono HBw.out))) hfc hcm
  obtain ⟨tl, htl⟩ : ∃ tl, (f.T.take 300).length = tl := ⟨_, rfl⟩
  rw [htl] at hCut
  have HCut := hide_ hCut
  have HTl := hide_ htl
  clear hCut htl
  have o1 := K1.out.cell 1; have o2 := K1.out.cell 2; have o3 := K1.out.cell 3; have o4 := K1.out.cell 4; have o5 := K1.out.cell 5; have o6 := K1.out.cell 6; have o7 := K1.out.cell 7; have o8 := K1.out.cell 8
  simp at o1 o2 o3 o4 o5 o6 o7 o8
  clear hB1
  go_enter Try.func25, Try.ntmps25
  go_upto_region 2 with fail
  rw [← hw1]
  clear hw1
  go_upto_if 11 with fail
  go_cut [5] from 5 to 11 (fun x5 wc => x5 = .int .i64 (wN wh : Int) ∧ w1 = wc)
  case first =>
    cases wh with
    | true =>
      go_wp2_with fail
      go_meet
      case rel => exact ⟨rfl, rfl⟩
    | false =>
      go_wp2_with fail
      go_meet
      case rel => exact ⟨rfl, rfl⟩
  case rest =>
  obtain ⟨rfl, rfl⟩ := hcut
  have hi := wN_lt wh
  obtain ⟨i, hiw⟩ : ∃ i, wN wh = i := ⟨_, rfl⟩
  have HIw := hide_ hiw
  rw [hiw] at hi ⊢
  clear hiw o1
  have hi' : (i : Int) < 2 := by omega
  go_wp2_with fail
  refine HCut.out.mono ?_
  rintro e w2 ⟨rfl, hb2⟩
  have K2 := hide_ (K1.out.later hb2)
  have HB2 := hide_ (below_to HB1.out hb2)
  obtain ⟨w3, hw3⟩ : ∃ wx, wx = ((((((w2.setCell ⟨w.heap.size, 2, none⟩ (.int .i64 f.r)).setCell ⟨w.heap.size, 3, none⟩ (.int .i64 f.a)).setCell ⟨w.heap.size, 4, none⟩ (.int .i64 f.b)).setCell ⟨w.heap.size, 5, none⟩ (.int .i64 f.e)).setCell ⟨w.heap.size, 6, none⟩ (.int .i64 f.n)).setCell ⟨w.heap.size, 7, none⟩ (.int .i64 f.x)).setCell ⟨w.heap.size, 8, none⟩ (.slice a tl c) := ⟨_, rfl⟩
  have hu3 : Upd (fun k => k = w.heap.size) w2 w3 := by
    rw [hw3]
    exact (((((((Upd.refl (fun k => k = w.heap.size) w2).set ⟨w.heap.size, 2, none⟩ _ (.inl rfl)).set ⟨w.heap.size, 3, none⟩ _ (.inl rfl)).set ⟨w.heap.size, 4, none⟩ _ (.inl rfl)).set ⟨w.heap.size, 5, none⟩ _ (.inl rfl)).set ⟨w.heap.size, 6, none⟩ _ (.inl rfl)).set ⟨w.heap.size, 7, none⟩ _ (.inl rfl)).set ⟨w.heap.size, 8, none⟩ _ (.inl rfl)
  have K3 : Hid (Blk w3 w.heap.size 63 [.int .i64 10, .bool wh, .int .i64 f.r, .int .i64 f.a, .int .i64 f.b, .int .i64 f.e, .int .i64 f.n, .int .i64 f.x, .slice a tl c, .int .i64 n, .slice ab nb cb]) := hide_ (by
    have h := ((((((K2.out.set 2 (.int .i64 f.r)).set 3 (.int .i64 f.a)).set 4 (.int .i64 f.b)).set 5 (.int .i64 f.e)).set 6 (.int .i64 f.n)).set 7 (.int .i64 f.x)).set 8 (.slice a tl c)
    rw [hw3]
    simpa using h)
  have HB3 : Hid (Below w.heap.size w w3) := hide_ (HB2.out.trans (hu3.below w.heap.size HB2.out.size (fun k hk => by omega)))
  have z2 := K2.out.frozen 2; have z3 := K2.out.frozen 3; have z4 := K2.out.frozen 4; have z5 := K2.out.frozen 5; have z6 := K2.out.frozen 6; have z7 := K2.out.frozen 7; have z8 := K2.out.frozen 8
  clear o2 o3 o4 o5 o6 o7 o8
  have o2 := K2.out.cell 2; have o3 := K2.out.cell 3; have o4 := K2.out.cell 4; have o5 := K2.out.cell 5; have o6 := K2.out.cell 6; have o7 := K2.out.cell 7; have o8 := K2.out.cell 8
  simp at o2 o3 o4 o5 o6 o7 o8
  clear hb2 hu3 HCut K1 K2
  go_upto_region 5 with fail
  rw [← hw3]
  clear hw3 o2 o3 o4 o5 o6 o7 o8 z2 z3 z4 z5 z6 z7 z8
  have o0 := K3.out.cell 0; have o9 := K3.out.cell 9; have o10 := K3.out.cell 10
  simp at o0 o9 o10
  have HBl := hide_ hbl
  clear hbl
  by_cases hlong : 3000 < nb
  · have hlong' : (3000 : Int) < nb := by omega
    have hc3 : (3000 : Int) ≤ cb := by omega
    obtain ⟨w4, hw4⟩ : ∃ wx, wx = w3.setCell ⟨w.heap.size, 10, none⟩ (.slice ab 3000 cb) := ⟨_, rfl⟩
    have hu4 : Upd (fun k => k = w.heap.size) w3 w4 := by rw [hw4]; exact (Upd.refl (fun k => k = w.heap.size) w3).set ⟨w.heap.size, 10, none⟩ _ (.inl rfl)
    have k4 : w4.cell? ⟨w.heap.size, 10, none⟩ = some (.slice ab 3000 cb) := by rw [hw4]; have := (K3.out.set 10 (.slice ab 3000 cb)).cell 10; simpa using this
    have HB4 := hide_ ((HB3.out.trans (hu4.below w.heap.size HB3.out.size (fun k hk => by omega))).mono HBw.out)
    have HT4 := hide_ ((hT.out.later HB3.out).upd hu4 (show ¬ bt = w.heap.size by have := HBd.out.2; omega) (fun j k hk e => by have := (HSk.out j k hk).2.1; omega))
    have hlt : (b.take 3000).length = 3000 := by rw [List.length_take, HBl.out]; omega
    have hL := loads_any B bt i p q xs N S ab cb (b.take 3000) w4 HT4 hi (hide_ ((HBR.out w4 HB4.out).take 3000)) hbn (hide_ (hby.out.take 3000)) (by omega) (by omega)
    rw [hlt] at hL
    have HLd := hide_ hL
    have z10 := K3.out.frozen 10
    clear hu4 hL hlt
    go_upto_region 25 with fail
    rw [← hw4]
    clear hw4 o10 z10
    go_wp2_with fail
    refine HLd.out.mono ?_
    rintro e w5 ⟨rfl, hp⟩
    have HP : Hid (PlTo B w w5 bt xs (N + 3)) := hide_ (by
      obtain ⟨p', q', xs', S', h1, h2, -, h4⟩ := hp.out
      exact ⟨p', q', xs', S', h1.mono (by omega), h2, HB4.out.trans (h4.below B (Nat.le_trans HBw.out HB4.out.size) (fun k hk => by rw [hk]; exact HBd.out.1))⟩)
    clear hp
    go_wp2_with fail
    go_ret
    exact ⟨rfl, HP⟩
  · have hshort : ¬ (3000 : Int) < nb := by omega
    have HB4 := hide_ (HB3.out.mono HBw.out)
    have hL := loads_any B bt i p q xs N S ab cb b w3 (hide_ (hT.out.later HB3.out)) hi (hide_ (HBR.out w3 HB4.out)) hbn hby (by rw [HBl.out]; exact hbc) (by rw [HBl.out]; omega)
    rw [HBl.out] at hL
    have HLd := hide_ hL
    clear hL
    go_wp2_with fail
    refine HLd.out.mono ?_
    rintro e w5 ⟨rfl, hp⟩
    have HP : Hid (PlTo B w w5 bt xs (N + 3)) := hide_ (by
      obtain ⟨p', q', xs', S', h1, h2, -, h4⟩ := hp.out
      exact ⟨p', q', xs', S', h1.mono (by omega), h2, HB4.out.trans (h4.below B (Nat.le_trans HBw.out HB4.out.size) (fun k hk => by rw [hk]; exact HBd.out.1))⟩)
    clear hp
    go_wp2_with fail
    go_ret
    exact ⟨rfl, HP⟩
set_option maxRecDepth 100000 in
set_option maxHeartbeats 16000000 in
theorem plays_none (B bt : Nat) (p q : Nat → Value) (xs : Nat → Option Sk) (N : Nat) (S : Nat → Nat → Prop) (wh : Bool) (kd : Int) (hkd : Hid (∀ j : Int, 1 ≤ j → j ≤ 11 → ¬ kd = j)) (f : Fr) (a : Option Addr) (c : Nat) (n : Int) (ab : Option Addr) (nb cb : Nat) (w : World) (hT : Hid (Tab B w bt p q xs xs N S)) (HFA : Hid (∀ w', Below B w w' → FrA w' f a c)) (hfc : f.T.length ≤ c) (hcm : c ≤ 9223372036854775807) (hN : N ≤ 780) :
    Calls Try.prog 25 #[.pointer (some ⟨bt, 0, none⟩), .agg #[.int .i64 kd, .bool wh, .int .i64 f.r, .int .i64 f.a, .int .i64 f.b, .int .i64 f.e, .int .i64 f.n, .int .i64 f.x, .slice a f.T.length c, .int .i64 n, .slice ab nb cb]] w fun e w' => e = .returned (.bool true) ∧ Hid (PlTo B w w' bt xs (N + 3)) := by
  have HBw := hide_ hT.out.base
  have HBd := hide_ hT.out.lt
  have HSk : Hid (∀ j k, S j k → B ≤ k ∧ k < w.heap.size ∧ k ≠ bt) := hide_ hT.out.ly
  obtain ⟨w1, hw1⟩ : ∃ wx, wx = w.alloc (.cells #[.int .i64 kd, .bool wh, .int .i64 f.r, .int .i64 f.a, .int .i64 f.b, .int .i64 f.e, .int .i64 f.n, .int .i64 f.x, .slice a f.T.length c, .int .i64 n, .slice ab nb cb] 63) := ⟨_, rfl⟩
  have hB1 : Below w.heap.size w w1 := by rw [hw1]; exact below1 _ _
  have K1 : Hid (Blk w1 w.heap.size 63 [.int .i64 kd, .bool wh, .int .i64 f.r, .int .i64 f.a, .int .i64 f.b, .int .i64 f.e, .int .i64 f.n, .int .i64 f.x, .slice a f.T.length c, .int .i64 n, .slice ab nb cb]) := hide_ (by rw [hw1]; exact Blk.newA w _ _)
  have HB1 := hide_ hB1
  have hCut := cut_any f a c w1 (hide_ (HFA.out w1 (hB1.mono HBw.out))) hfc hcm
  obtain ⟨tl, htl⟩ : ∃ tl, (f.T.take 300).length = tl := ⟨_, rfl⟩
  rw [htl] at hCut
  have HCut := hide_ hCut
  have HTl := hide_ htl
  clear hCut htl
  have o1 := K1.out.cell 1; have o2 := K1.out.cell 2; have o3 := K1.out.cell 3; have o4 := K1.out.cell 4; have o5 := K1.out.cell 5; have o6 := K1.out.cell 6; have o7 := K1.out.cell 7; have o8 := K1.out.cell 8
  simp at o1 o2 o3 o4 o5 o6 o7 o8
  clear hB1
  go_enter Try.func25, Try.ntmps25
  go_upto_region 2 with fail
  rw [← hw1]
  clear hw1
  go_upto_if 11 with fail
  go_cut [5] from 5 to 11 (fun x5 wc => x5 = .int .i64 (wN wh : Int) ∧ w1 = wc)
  case first =>
    cases wh with
    | true =>
      go_wp2_with fail
      go_meet
      case rel => exact ⟨rfl, rfl⟩
    | false =>
      go_wp2_with fail
      go_meet
      case rel => exact ⟨rfl, rfl⟩
  case rest =>
  obtain ⟨rfl, rfl⟩ := hcut
  have hi := wN_lt wh
  obtain ⟨i, hiw⟩ : ∃ i, wN wh = i := ⟨_, rfl⟩
  have HIw := hide_ hiw
  rw [hiw] at hi ⊢
  clear hiw o1
  have hi' : (i : Int) < 2 := by omega
  go_wp2_with fail
  refine HCut.out.mono ?_
  rintro e w2 ⟨rfl, hb2⟩
  have K2 := hide_ (K1.out.later hb2)
  have HB2 := hide_ (below_to HB1.out hb2)
  obtain ⟨w3, hw3⟩ : ∃ wx, wx = ((((((w2.setCell ⟨w.heap.size, 2, none⟩ (.int .i64 f.r)).setCell ⟨w.heap.size, 3, none⟩ (.int .i64 f.a)).setCell ⟨w.heap.size, 4, none⟩ (.int .i64 f.b)).setCell ⟨w.heap.size, 5, none⟩ (.int .i64 f.e)).setCell ⟨w.heap.size, 6, none⟩ (.int .i64 f.n)).setCell ⟨w.heap.size, 7, none⟩ (.int .i64 f.x)).setCell ⟨w.heap.size, 8, none⟩ (.slice a tl c) := ⟨_, rfl⟩
  have hu3 : Upd (fun k => k = w.heap.size) w2 w3 := by
    rw [hw3]
    exact (((((((Upd.refl (fun k => k = w.heap.size) w2).set ⟨w.heap.size, 2, none⟩ _ (.inl rfl)).set ⟨w.heap.size, 3, none⟩ _ (.inl rfl)).set ⟨w.heap.size, 4, none⟩ _ (.inl rfl)).set ⟨w.heap.size, 5, none⟩ _ (.inl rfl)).set ⟨w.heap.size, 6, none⟩ _ (.inl rfl)).set ⟨w.heap.size, 7, none⟩ _ (.inl rfl)).set ⟨w.heap.size, 8, none⟩ _ (.inl rfl)
  have K3 : Hid (Blk w3 w.heap.size 63 [.int .i64 kd, .bool wh, .int .i64 f.r, .int .i64 f.a, .int .i64 f.b, .int .i64 f.e, .int .i64 f.n, .int .i64 f.x, .slice a tl c, .int .i64 n, .slice ab nb cb]) := hide_ (by
    have h := ((((((K2.out.set 2 (.int .i64 f.r)).set 3 (.int .i64 f.a)).set 4 (.int .i64 f.b)).set 5 (.int .i64 f.e)).set 6 (.int .i64 f.n)).set 7 (.int .i64 f.x)).set 8 (.slice a tl c)
    rw [hw3]
    simpa using h)
  have HB3 : Hid (Below w.heap.size w w3) := hide_ (HB2.out.trans (hu3.below w.heap.size HB2.out.size (fun k hk => by omega)))
  have z2 := K2.out.frozen 2; have z3 := K2.out.frozen 3; have z4 := K2.out.frozen 4; have z5 := K2.out.frozen 5; have z6 := K2.out.frozen 6; have z7 := K2.out.frozen 7; have z8 := K2.out.frozen 8
  clear o2 o3 o4 o5 o6 o7 o8
  have o2 := K2.out.cell 2; have o3 := K2.out.cell 3; have o4 := K2.out.cell 4; have o5 := K2.out.cell 5; have o6 := K2.out.cell 6; have o7 := K2.out.cell 7; have o8 := K2.out.cell 8
  simp at o2 o3 o4 o5 o6 o7 o8
  clear hb2 hu3 HCut K1 K2
  go_upto_region 5 with fail
  rw [← hw3]
  clear hw3 o2 o3 o4 o5 o6 o7 o8 z2 z3 z4 z5 z6 z7 z8
  have o0 := K3.out.cell 0; have o9 := K3.out.cell 9; have o10 := K3.out.cell 10
  simp at o0 o9 o10
  have q1 : (kd == 1) = false := by simpa using hkd.out 1 (by decide) (by decide)
  have q2 : (kd == 2) = false := by simpa using hkd.out 2 (by decide) (by decide)
  have q3 : (kd == 3) = false := by simpa using hkd.out 3 (by decide) (by decide)
  have q4 : (kd == 4) = false := by simpa using hkd.out 4 (by decide) (by decide)
  have q5 : (kd == 5) = false := by simpa using hkd.out 5 (by decide) (by decide)
  have q6 : (kd == 6) = false := by simpa using hkd.out 6 (by decide) (by decide)
  have q7 : (kd == 7) = false := by simpa using hkd.out 7 (by decide) (by decide)
  have q8 : (kd == 8) = false := by simpa using hkd.out 8 (by decide) (by decide)
  have q9 : (kd == 9) = false := by simpa using hkd.out 9 (by decide) (by decide)
  have q10 : (kd == 10) = false := by simpa using hkd.out 10 (by decide) (by decide)
  have q11 : (kd == 11) = false := by simpa using hkd.out 11 (by decide) (by decide)
  have HP : Hid (PlTo B w w3 bt xs (N + 3)) := hide_ ⟨p, q, xs, S, (hT.out.later HB3.out).mono (by omega), fun j y hy => ⟨y, hy⟩, HB3.out.mono HBw.out⟩
  go_wp2_with fail
  go_ret
  exact ⟨rfl, HP⟩
end Go.Proofs.Ytcmkdkocponpiaa

/- mortiselaw22: plays, any call; the script's rows. -/
namespace Go.Proofs.Ytcmkdkocponpiaa
open Go.RowKit
set_option linter.unusedVariables false

/-- A call of the script. -/
structure OpV where
  kd : Int
  wh : Bool
  f : Fr
  a : Option Addr
  c : Nat
  n : Int
  ab : Option Addr
  b : List Int
  cb : Nat
def opc (o : OpV) : List Value := [.int .i64 o.kd, .bool o.wh, .int .i64 o.f.r, .int .i64 o.f.a, .int .i64 o.f.b, .int .i64 o.f.e, .int .i64 o.f.n, .int .i64 o.f.x, .slice o.a o.f.T.length o.c, .int .i64 o.n, .slice o.ab o.b.length o.cb]
structure OpOk (w : World) (o : OpV) : Prop where
  fa : FrA w o.f o.a o.c
  fc : o.f.T.length ≤ o.c
  cm : o.c ≤ 9223372036854775807
  br : Row .u8 w o.ab o.b
  bn : o.ab = none → o.cb = 0
  by_ : Bys o.b
  bc : o.b.length ≤ o.cb
theorem OpOk.later {w w' : World} {o : OpV} (h : OpOk w o) (hB : Below w.heap.size w w') : OpOk w' o := ⟨h.fa.later hB, h.fc, h.cm, h.br.later hB, h.bn, h.by_, h.bc⟩
structure ORow (w : World) (a : Option Addr) (L : List OpV) : Prop where
  row : GRow 11 opc w a L
  ok : ∀ o ∈ L, OpOk w o
theorem NwTo.pl {B : Nat} {w w' : World} {bt : Nat} {xs : Nat → Option Sk} {N M i : Nat} {n : Int} (h : NwTo B w w' bt xs N i n) (hN : N ≤ M) : PlTo B w w' bt xs M := by
  obtain ⟨p', q', xs', S', h1, h2, h3, -⟩ := h
  exact ⟨p', q', xs', S', h1.mono hN, h2, h3⟩
theorem plays_any (B bt : Nat) (p q : Nat → Value) (xs : Nat → Option Sk) (N : Nat) (S : Nat → Nat → Prop) (o : OpV) (w : World) (hT : Hid (Tab B w bt p q xs xs N S)) (hx : ∀ j, j < 2 → ∃ y, xs j = some y) (HO : Hid (∀ w', Below B w w' → OpOk w' o)) (hN : N ≤ 780) :
    Calls Try.prog 25 #[.pointer (some ⟨bt, 0, none⟩), .agg (opc o).toArray] w fun e w' => e = .returned (.bool true) ∧ Hid (PlTo B w w' bt xs (N + 3)) := by
  have h0 := HO.out w (Below.refl _ _)
  have hfc := h0.fc
  have hcm := h0.cm
  have HFA : Hid (∀ w', Below B w w' → FrA w' o.f o.a o.c) := hide_ (fun w' hb => (HO.out w' hb).fa)
  have HBR : Hid (∀ w', Below B w w' → Row .u8 w' o.ab o.b) := hide_ (fun w' hb => (HO.out w' hb).br)
  have hbn := h0.bn
  have hby := h0.by_
  have hbc := h0.bc
  obtain ⟨kd, wh, f, a, c, n, ab, b, cb⟩ := o
  dsimp only at hfc hcm HFA HBR hbn hby hbc
  by_cases hk : kd = 1 ∨ kd = 2 ∨ kd = 3 ∨ kd = 4 ∨ kd = 5 ∨ kd = 6 ∨ kd = 7 ∨ kd = 8 ∨ kd = 9 ∨ kd = 10 ∨ kd = 11
  · rcases hk with rfl | rfl | rfl | rfl | rfl | rfl | rfl | rfl | rfl | rfl | rfl
    · refine (plays_new B bt p q xs N S wh f a c n ab b.length cb w hT HFA hfc hcm hN).mono ?_
      rintro e w' ⟨rfl, h⟩
      exact ⟨rfl, hide_ (h.out.pl (by omega))⟩
    · exact plays_push B bt p q xs N S wh f a c n ab b.length cb w hT HFA hfc hcm hN hx
    · exact plays_pop B bt p q xs N S wh f a c n ab b.length cb w hT HFA hfc hcm hN hx
    · exact plays_tells B bt p q xs N S wh f a c n ab b.length cb w hT HFA hfc hcm hN hx
    · exact plays_set B bt p q xs N S wh f a c n ab b.length cb w hT HFA hfc hcm hN hx
    · exact plays_go B bt p q xs N S wh f a c n ab b.length cb w hT HFA hfc hcm hN hx
    · exact plays_mark B bt p q xs N S wh f a c n ab b.length cb w hT HFA hfc hcm hN hx
    · exact plays_slot B bt p q xs N S wh f a c n ab b.length cb w hT HFA hfc hcm hN hx
    · exact plays_save B bt p q xs N S wh f a c n ab b.length cb w hT HFA hfc hcm hN hx
    · exact plays_load B bt p q xs N S wh f a c n ab b.length cb w hT HFA hfc hcm hN hx b rfl HBR hbn (hide_ hby) hbc
    · exact plays_reload B bt p q xs N S wh f a c n ab b.length cb w hT HFA hfc hcm hN hx
  · exact plays_none B bt p q xs N S wh kd (hide_ (fun j h1 h2 e => hk (by subst e; omega))) f a c n ab b.length cb w hT HFA hfc hcm hN
/-- The table at its beginning. -/
theorem tab_zero (w : World) (B : Nat) (hB : B ≤ w.heap.size) : Tab B (w.alloc (.cells #[.pointer none, .pointer none, .pointer none, .pointer none, .slice none 0 0, .slice none 0 0, .slice none 0 0, .slice none 0 0] 60)) w.heap.size (fun _ => .pointer none) (fun _ => .pointer none) (fun _ => none) (fun _ => none) 0 (fun _ _ => False) :=
  ⟨⟨_, _, _, _, 0, 0, _, _, _, _, _, _, ⟨Half.none _ _ _ _ _ _, Blk.newA w _ _, rfl, rfl, hB⟩, Half.none _ _ _ _ _ _, Nat.le_refl _, Nat.le_refl _, fun q hq => by
    rcases hq with hq | hq
    · rcases hq with hq | hq | ⟨j, hj, -⟩
      · cases hq
      · cases hq
      · omega
    · rcases hq with hq | hq | ⟨j, hj, -⟩
      · cases hq
      · cases hq
      · omega⟩, fun i hi => .inl ⟨rfl, rfl⟩, fun i hi => .inl ⟨rfl, rfl⟩, fun i j k h => h.elim, fun i k h => h.elim⟩
end Go.Proofs.Ytcmkdkocponpiaa

/- mortiselaw22: FramesExact: the walk. -/
namespace Go.Proofs.Ytcmkdkocponpiaa
open Go.RowKit
set_option linter.unusedVariables false

theorem zero_frA (w : World) : FrA w fr0 none 0 := ⟨.inl ⟨rfl, rfl⟩, fun _ => rfl, Nat.zero_le _⟩
set_option maxRecDepth 100000 in
set_option maxHeartbeats 16000000 in
theorem fexact_any (a : Option Addr) (c : Nat) (L : List OpV) (w : World) (hcap : L.length ≤ c) (hcm : c ≤ 9223372036854775807) (hL : Hid (ORow w a L)) :
    Calls Try.prog 5 #[.slice a L.length c] w fun e w' => e = .returned (.bool true) ∧ Below w.heap.size w w' := by
  have HAw := hide_ (awake_any w)
  go_enter Try.func5, Try.ntmps5
  go_wp2_with fail
  refine HAw.out.mono ?_
  rintro e w1 ⟨rfl, hb1⟩
  obtain ⟨bt, hbt⟩ : ∃ bt, bt = w1.heap.size := ⟨_, rfl⟩
  obtain ⟨w2, hw2⟩ : ∃ wx, wx = w1.alloc (.cells #[.pointer none, .pointer none, .pointer none, .pointer none, .slice none 0 0, .slice none 0 0, .slice none 0 0, .slice none 0 0] 60) := ⟨_, rfl⟩
  have hb2 : Below w1.heap.size w1 w2 := by rw [hw2]; exact below1 _ _
  have HT2 : Hid (Tab w.heap.size w2 bt (fun _ => .pointer none) (fun _ => .pointer none) (fun _ => none) (fun _ => none) 0 (fun _ _ => False)) := hide_ (by rw [hw2, hbt]; exact tab_zero w1 w.heap.size hb1.size)
  have HB2 := hide_ (below_to hb1 hb2)
  clear hb1 hb2 HAw
  go_upto_region 4 with fail
  rw [← hw2]
  clear hw2
  rw [← hbt]
  clear hbt
  go_wp2_with fail
  go_loopw [4] (fun x4 wr => ∃ (k : Nat) (p q : Nat → Value) (xs : Nat → Option Sk) (S : Nat → Nat → Prop), k ≤ 2 ∧ x4 = .int .i64 (k : Int) ∧ Hid (Tab w.heap.size wr bt p q xs xs 0 S) ∧ Hid (∀ j, j < k → ∃ y, xs j = some y) ∧ Hid (Below w.heap.size w wr)) (fun x4 _ => 2 - (intOf x4).toNat)
  case atStart => exact ⟨0, _, _, _, _, by omega, rfl, HT2, hide_ (fun j hj => by omega), HB2⟩
  case round =>
    clear HT2 HB2
    obtain ⟨k, p, q, xs, S, hk, rfl, HT, HX, HB⟩ := hrel
    generalize wr = wq at *
    rcases (show k = 0 ∨ k = 1 ∨ ¬ k < 2 by omega) with rfl | rfl | hk2
    · --<A
      have h := plays_new w.heap.size bt p q xs 0 S false fr0 none 0 5 none 0 0 wq HT (hide_ (fun w' _ => zero_frA w')) (Nat.le_refl _) (by decide) (by omega)
      have HPl : Hid (Calls Try.prog 25 #[.pointer (some ⟨bt, 0, none⟩), .agg #[.int .i64 1, .bool false, .int .i64 0, .int .i64 0, .int .i64 0, .int .i64 0, .int .i64 0, .int .i64 0, .slice none 0 0, .int .i64 5, .slice none 0 0]] wq fun e w' => e = .returned (.bool true) ∧ Hid (NwTo w.heap.size wq w' bt xs 0 0 5)) := hide_ h
      clear h
      go_wp2_with fail
      refine HPl.out.mono ?_
      rintro e w4 ⟨rfl, hn⟩
      obtain ⟨p', q', xs', S', hT4, hxs, hb4, hx0⟩ := hn.out
      obtain ⟨y, hy⟩ := hx0 (by decide)
      have hP := hT4.ps 0 (by decide)
      rw [hy] at hP
      obtain ⟨g, hg, -⟩ := hP.open
      have c0 := (hT4.cellP 0 (by decide)).1
      rw [hg] at c0
      have HT4 := hide_ hT4
      have HX4 : Hid (∀ j, j < 0 + 1 → ∃ y, xs' j = some y) := hide_ (fun j hj => by
        have e : j = 0 := by omega
        rw [e]
        exact ⟨y, hy⟩)
      have HB4 := hide_ (HB.out.trans hb4)
      clear hn hT4 hxs hb4 hx0 hP hg hy
      go_wp2_with fail
      go_roundw
      case rel => exact ⟨1, p', q', xs', S', by omega, rfl, HT4, HX4, HB4⟩
      case measure => simp [intOf]
    · --<B
      have h := plays_new w.heap.size bt p q xs 0 S true fr0 none 0 6 none 0 0 wq HT (hide_ (fun w' _ => zero_frA w')) (Nat.le_refl _) (by decide) (by omega)
      have HPl : Hid (Calls Try.prog 25 #[.pointer (some ⟨bt, 0, none⟩), .agg #[.int .i64 1, .bool true, .int .i64 0, .int .i64 0, .int .i64 0, .int .i64 0, .int .i64 0, .int .i64 0, .slice none 0 0, .int .i64 6, .slice none 0 0]] wq fun e w' => e = .returned (.bool true) ∧ Hid (NwTo w.heap.size wq w' bt xs 0 1 6)) := hide_ h
      clear h
      go_wp2_with fail
      refine HPl.out.mono ?_
      rintro e w4 ⟨rfl, hn⟩
      obtain ⟨p', q', xs', S', hT4, hxs, hb4, hx0⟩ := hn.out
      obtain ⟨y, hy⟩ := hx0 (by decide)
      have hP := hT4.ps 1 (by decide)
      rw [hy] at hP
      obtain ⟨g, hg, -⟩ := hP.open
      have c0 := (hT4.cellP 1 (by decide)).1
      rw [hg] at c0
      have HT4 := hide_ hT4
      have HX4 : Hid (∀ j, j < 1 + 1 → ∃ y, xs' j = some y) := hide_ (fun j hj => by
        rcases (show j = 0 ∨ j = 1 by omega) with rfl | rfl
        · obtain ⟨z, hz⟩ := HX.out 0 (by omega)
          exact hxs 0 z hz
        · exact ⟨y, hy⟩)
      have HB4 := hide_ (HB.out.trans hb4)
      clear hn hT4 hxs hb4 hx0 hP hg hy
      go_wp2_with fail
      go_roundw
      case rel => exact ⟨2, p', q', xs', S', by omega, rfl, HT4, HX4, HB4⟩
      case measure => simp [intOf]
    · --<C
      have hk2' : ¬ (k : Int) < 2 := by omega
      have HX : Hid (∀ j, j < 2 → ∃ y, xs j = some y) := hide_ (fun j hj => HX.out j (by omega))
      go_wp2_with fail
      go_loopw [6] (fun x6 wr => ∃ (i : Nat) (p q : Nat → Value) (xs : Nat → Option Sk) (S : Nat → Nat → Prop), i ≤ L.length ∧ i ≤ 150 ∧ x6 = .int .i64 (i : Int) ∧ Hid (Tab w.heap.size wr bt p q xs xs (3 * i) S) ∧ Hid (∀ j, j < 2 → ∃ y, xs j = some y) ∧ Hid (Below w.heap.size w wr)) (fun x6 _ => 150 - (intOf x6).toNat)
      case atStart => exact ⟨0, p, q, xs, S, Nat.zero_le _, by omega, rfl, HT, HX, HB⟩
      case round =>
        clear HT HX HB
        obtain ⟨i, p, q, xs, S, hi, hi150, rfl, HT, HX, HB⟩ := hrel
        generalize wr = wi at *
        by_cases hlt : i < L.length
        · have hlt' : (i : Int) < L.length := by omega
          by_cases h150 : i < 150
          · have h150' : (i : Int) < 150 := by omega
            have hx : L[i]? = some (L[i]'hlt) := List.getElem?_eq_getElem hlt
            obtain ⟨o, ho⟩ : ∃ o, L[i]'hlt = o := ⟨_, rfl⟩
            rw [ho] at hx
            have hmem : o ∈ L := List.mem_of_getElem? hx
            obtain ⟨b, off, rfl, hbl, hc⟩ := (hL.out.row.later HB.out).open (by omega)
            have hcx := hc i o hx
            have i0 := hcx 0 (by decide); have i1 := hcx 1 (by decide); have i2 := hcx 2 (by decide); have i3 := hcx 3 (by decide); have i4 := hcx 4 (by decide); have i5 := hcx 5 (by decide); have i6 := hcx 6 (by decide); have i7 := hcx 7 (by decide); have i8 := hcx 8 (by decide); have i9 := hcx 9 (by decide); have i10 := hcx 10 (by decide)
            simp [opc] at i0 i1 i2 i3 i4 i5 i6 i7 i8 i9 i10
            have HPl : Hid (Calls Try.prog 25 #[.pointer (some ⟨bt, 0, none⟩), .agg #[.int .i64 o.kd, .bool o.wh, .int .i64 o.f.r, .int .i64 o.f.a, .int .i64 o.f.b, .int .i64 o.f.e, .int .i64 o.f.n, .int .i64 o.f.x, .slice o.a o.f.T.length o.c, .int .i64 o.n, .slice o.ab o.b.length o.cb]] wi fun e w' => e = .returned (.bool true) ∧ Hid (PlTo w.heap.size wi w' bt xs (3 * i + 3))) := hide_ (plays_any w.heap.size bt p q xs (3 * i) S o wi HT HX.out (hide_ (fun w' hb => (hL.out.ok o hmem).later (HB.out.trans hb))) (by omega))
            clear ho hx hmem hbl hc hcx
            go_wp2_with fail
            refine HPl.out.mono ?_
            rintro e w4 ⟨rfl, hn⟩
            obtain ⟨p', q', xs', S', hT4, hxs, hb4⟩ := hn.out
            have HHo := hide_ (bok_holds hT4.bk (by omega))
            have HT4 : Hid (Tab w.heap.size w4 bt p' q' xs' xs' (3 * (i + 1)) S') := hide_ hT4
            have HX4 : Hid (∀ j, j < 2 → ∃ y, xs' j = some y) := hide_ (fun j hj => by
              obtain ⟨z, hz⟩ := HX.out j hj
              exact hxs j z hz)
            have HB4 := hide_ (HB.out.trans hb4)
            clear hn hT4 hxs hb4 i0 i1 i2 i3 i4 i5 i6 i7 i8 i9 i10
            go_wp2_with fail
            refine HHo.out.mono ?_
            rintro e w5 ⟨rfl, rfl⟩
            go_wp2_with fail
            go_roundw
            case rel => exact ⟨i + 1, p', q', xs', S', by omega, by omega, by go_num, HT4, HX4, HB4⟩
            case measure => simp [intOf]; omega
          · have h150' : ¬ (i : Int) < 150 := by omega
            have h150d : decide ((i : Int) < 150) = false := decide_eq_false h150'
            go_wp2_with fail
            go_ret
            exact ⟨rfl, HB.out⟩
        · have hlt' : ¬ (i : Int) < L.length := by omega
          go_wp2_with fail
          go_ret
          exact ⟨rfl, HB.out⟩
end Go.Proofs.Ytcmkdkocponpiaa
