import Derived.Test.YtlbgdgobhiokpaaDoorPart15
import Derived.Test.YtlbgdgobhiokpaaDoorPart16
import Derived.Laws.Closers25b
import Derived.Test.YtlbgdgobhiokpaaDoorPart13
import Derived.Test.YtlbgdgobhiokpaaDoorPart01
import Derived.ProofKit
import Derived.OpenShut
import Derived.ShutString
import Derived.ChangeOld
import Derived.Deep.Slices

/- parses. -/
namespace Go.Proofs.YtlbgdgobhiokpaaDoor
open Go.RowKit
set_option linter.unusedVariables false

theorem refParse_is (s : ByteArray) (w : World) (hs : s.size ≤ 1048576) :
    Calls Tryd.prog 66 #[.string s] w fun e w' => ∃ v, e = .returned (.tuple #[v, .int .i64 (parseF (tx s)).1, .int .i64 (parseF (tx s)).2]) ∧ Hid (w'.ownsRow w.heap.size 37 3 v (parseN (tx s)).length (cellsN (parseN (tx s)))) ∧ Below w.heap.size w w' := by
  refine (refParse_any s w hs).mono ?_
  intro e w' HP
  obtain ⟨hB, hm⟩ := HP.out
  obtain ⟨h1, h2⟩ := parseD_is (tx s)
  revert hm h1 h2
  cases parseD (tx s) with
  | mk o q =>
    cases o with
    | none =>
      intro hm h1 h2
      have h1 : [] = parseN (tx s) := h1
      rw [h2, ← h1]
      exact ⟨_, hm, World.ownsRow_nil _ _ _ _, hB⟩
    | some L =>
      intro hm h1 h2
      have h1 : L = parseN (tx s) := h1
      rw [h2, ← h1]
      obtain ⟨v, e1, e2⟩ := hm
      exact ⟨v, e1, e2, hB⟩
set_option maxRecDepth 100000 in
set_option maxHeartbeats 8000000 in
theorem parses_any (B bt N : Nat) (Z : Nat → Prop) (s : ByteArray) (w : World) (hb : Hid (Bk B w bt N Z)) (hN : N ≤ 800) :
    Calls Tryd.prog 53 #[.pointer (some ⟨bt, 0, none⟩), .string s] w fun e w' => e = .returned (.bool true) ∧ Hid (BkTo B w w' bt (N + 2) Z) := by
  have key : ∃ x : ByteArray, x.size ≤ 3000 ∧ ((s.size ≤ 3000 ∧ x = s) ∨ (3000 < s.size ∧ s.extract 0 3000 = x)) := by
    by_cases h : s.size ≤ 3000
    · exact ⟨s, h, .inl ⟨h, rfl⟩⟩
    · refine ⟨s.extract 0 3000, ?_, .inr ⟨by omega, rfl⟩⟩
      rw [ByteArray.size_extract]
      omega
  obtain ⟨x, hx, hcase⟩ := key
  go_enter Tryd.func53, Tryd.ntmps53
  rcases hcase with ⟨h3, hxs⟩ | ⟨h3, hxs⟩
  · subst hxs
    have h3' : ¬ (3000 : Int) < x.size := by omega
    go_upto_region 3 with fail
    have hlen := parseN_len (tx x)
    rw [tx_len] at hlen
    obtain ⟨D, hD⟩ : ∃ D, parseN (tx x) = D := ⟨_, rfl⟩
    obtain ⟨⟨e0, a0⟩, hF⟩ : ∃ R, parseF (tx x) = R := ⟨_, rfl⟩
    rw [hD] at hlen
    have HD := hide_ hD
    have HF := hide_ hF
    clear hD hF
    go_wp2_with fail
    refine (parse_any x w (by omega)).mono ?_; rintro e w1 ⟨v1, rfl, HO1, hB1⟩
    rw [HD.out] at HO1
    rw [HF.out]
    unfold fltv
    have HB1 := hide_ (hB1.alloc hB1.size (.cells #[.int .i64 e0, .int .i64 a0] 29))
    have HK1 := hide_ (Blk.newA w1 #[.int .i64 e0, .int .i64 a0] 29)
    have HO1 := hide_ (ownS_upd HO1.out (Upd.of_below (S := fun _ => False) ((Below.refl _ w1).alloc (Nat.le_refl _) (.cells #[.int .i64 e0, .int .i64 a0] 29))) (fun _ _ h => h))
    clear hB1
    go_upto_region 4 with fail
    generalize hw2 : w1.alloc (.cells #[.int .i64 e0, .int .i64 a0] 29) = w2 at *
    clear hw2
    go_wp2_with fail
    refine (parse_any x w2 (by omega)).mono ?_; rintro e w3 ⟨v3, rfl, HO3, hB3⟩
    rw [HD.out] at HO3
    rw [HF.out]
    unfold fltv
    have hne : Hid (∀ q, v1.ownBlock = some q → v3.ownBlock ≠ some q) := fun q h1 h2 => by
      have e1 := (HO1.out.lt q h1).2
      have e2 := (HO3.out.lt q h2).1
      omega
    have HB3 := hide_ ((HB1.out.trans (hB3.mono HB1.out.size)).alloc (Nat.le_trans HB1.out.size hB3.size) (.cells #[.int .i64 e0, .int .i64 a0] 29))
    have HK13 := hide_ ((HK1.out.later hB3).alloc (.cells #[.int .i64 e0, .int .i64 a0] 29))
    have HK3 := hide_ (Blk.newA w3 #[.int .i64 e0, .int .i64 a0] 29)
    have HO13 := hide_ (ownS_upd (ownS_upd HO1.out (Upd.of_below (S := fun _ => False) hB3) (fun _ _ h => h)) (Upd.of_below (S := fun _ => False) ((Below.refl _ w3).alloc (Nat.le_refl _) (.cells #[.int .i64 e0, .int .i64 a0] 29))) (fun _ _ h => h))
    have HO3 := hide_ (own_mono (ownS_upd HO3.out (Upd.of_below (S := fun _ => False) ((Below.refl _ w3).alloc (Nat.le_refl _) (.cells #[.int .i64 e0, .int .i64 a0] 29))) (fun _ _ h => h)) HB1.out.size)
    clear hB3 HB1 HK1 HO1
    go_upto_region 5 with fail
    generalize hw4 : w3.alloc (.cells #[.int .i64 e0, .int .i64 a0] 29) = w4 at *
    clear hw4
    go_wp2_with fail
    refine (refParse_is x w4 (by omega)).mono ?_; rintro e w5 ⟨v5, rfl, HO5, hB5⟩
    rw [HD.out] at HO5
    rw [HF.out]
    have HB5 := hide_ (HB3.out.trans (hB5.mono HB3.out.size))
    have HK15 := hide_ (HK13.out.later hB5)
    have HK35 := hide_ (HK3.out.later hB5)
    have HO15 := hide_ (ownS_upd HO13.out (Upd.of_below (S := fun _ => False) hB5) (fun _ _ h => h))
    have HO35 := hide_ (ownS_upd HO3.out (Upd.of_below (S := fun _ => False) hB5) (fun _ _ h => h))
    clear hB5 HB3 HK13 HK3 HO13 HO3
    obtain ⟨b1, k1, rfl, r1, -⟩ := own_nrow HO15.out
    obtain ⟨b3, k3, rfl, r3, -⟩ := own_nrow HO35.out
    obtain ⟨b5, k5, rfl, r5, -⟩ := own_nrow HO5.out
    have Hr1 := hide_ r1
    have Hr3 := hide_ r3
    have Hr5 := hide_ r5
    clear r1 r3 r5 HO5
    go_wp2_with fail
    refine (refEqual_any b1 b5 D.length D.length k1 k5 D D w5 rfl rfl (by omega) (by omega) Hr1 Hr5).mono ?_; rintro e w6 ⟨rfl, hB6⟩
    rw [show decide (D = D) = true from decide_eq_true rfl]
    have HB56 := hide_ hB6
    have Hr3b := hide_ (Hr3.out.later hB6)
    have Hr5b := hide_ (Hr5.out.later hB6)
    clear hB6 Hr1 Hr3 Hr5
    go_wp2_with fail
    refine (refEqual_any b3 b5 D.length D.length k3 k5 D D w6 rfl rfl (by omega) (by omega) Hr3b Hr5b).mono ?_; rintro e w7 ⟨rfl, hB7⟩
    rw [show decide (D = D) = true from decide_eq_true rfl]
    have HB57 := hide_ (below_to HB56.out hB7)
    clear hB7 HB56 Hr3b Hr5b
    have K1 := HK15.out.later HB57.out
    have d10 := K1.cell 0; have d11 := K1.cell 1
    simp at d10 d11
    go_wp2_with fail
    refine (fault_any e0 a0 e0 a0 w7).mono ?_; rintro e w8 ⟨rfl, hB8⟩
    rw [show decide (e0 = e0 ∧ a0 = a0) = true by simp]
    have HB58 := hide_ (below_to HB57.out hB8)
    clear hB8 HB57 d10 d11 K1
    have K3 := HK35.out.later HB58.out
    have d30 := K3.cell 0; have d31 := K3.cell 1
    simp at d30 d31
    go_wp2_with fail
    refine (fault_any e0 a0 e0 a0 w8).mono ?_; rintro e w9 ⟨rfl, hB9⟩
    rw [show decide (e0 = e0 ∧ a0 = a0) = true by simp]
    have HB59 := hide_ (below_to HB58.out hB9)
    clear hB9 HB58 d30 d31 K3 HK15 HK35
    have HB9 := hide_ (HB5.out.trans (HB59.out.mono HB5.out.size))
    have HO19 := hide_ (ownS_upd HO15.out (Upd.of_below (S := fun _ => False) HB59.out) (fun _ _ h => h))
    have HO39 := hide_ (ownS_upd HO35.out (Upd.of_below (S := fun _ => False) HB59.out) (fun _ _ h => h))
    clear HB59 HB5 HO15 HO35
    have Hbk := hide_ (hb.out.later HB9.out)
    have z1 : Hid (∀ q, (Value.slice b1 D.length k1).ownBlock = some q → ¬ Z q) := fun q hq e => by
      have h1 := (HO19.out.lt q hq).1
      have h2 := (hb.out.z q e).2
      omega
    go_wp2_with fail
    refine (bk_nodes (D := D) Hbk.out (own_mono HO19.out hb.out.base) z1.out (by omega) (by omega)).mono ?_; rintro e wa ⟨rfl, HI⟩
    obtain ⟨Z2, g2, u2, q2⟩ := HI.out
    have HO3a : Hid (wa.ownsRow w.heap.size 37 3 (.slice b3 D.length k3) D.length (cellsN D)) := ownS_upd HO39.out u2 fun q hq e => by
      rcases e with e | e | e
      · subst e
        obtain ⟨xs, hx⟩ := Hbk.out.tab.2
        obtain ⟨ys, hy⟩ := ownS_type HO39.out hq
        exact absurd (blk_type hx hy) (by decide)
      · exact hne.out q e hq
      · have h1 := (HO39.out.lt q hq).1
        have h2 := (hb.out.z q e).2
        omega
    have z2 : Hid (∀ q, (Value.slice b3 D.length k3).ownBlock = some q → ¬ Z2 q) := fun q hq e => by
      have h1 := (HO39.out.lt q hq)
      rcases q2 q e with h | h | h
      · have h2 := (hb.out.z q h).2
        omega
      · exact hne.out q h hq
      · omega
    have Hg2 := hide_ g2
    have Hu2 := hide_ u2
    have Hq2 := hide_ q2
    clear HI g2 u2 q2
    go_wp2_with fail
    refine (bk_nodes (D := D) Hg2.out (own_mono HO3a.out hb.out.base) z2.out (by omega) (by omega)).mono ?_; rintro e wb ⟨rfl, HJ⟩
    obtain ⟨Z3, g3, u3, q3⟩ := HJ.out
    have fin : Hid (BkTo B w wb bt (N + 2) Z) := bk_two HB9.out (fun q hq => (HO19.out.lt q hq).1) (fun q hq => (HO39.out.lt q hq).1) Hu2.out Hq2.out u3 q3 g3
    clear HJ g3 u3 q3
    go_wp2
    go_ret
    exact ⟨by first | rfl | simp, fin⟩
  · have h3' : (3000 : Int) < s.size := by omega
    go_upto_region 3 with fail
    clear hxs
    have hlen := parseN_len (tx x)
    rw [tx_len] at hlen
    obtain ⟨D, hD⟩ : ∃ D, parseN (tx x) = D := ⟨_, rfl⟩
    obtain ⟨⟨e0, a0⟩, hF⟩ : ∃ R, parseF (tx x) = R := ⟨_, rfl⟩
    rw [hD] at hlen
    have HD := hide_ hD
    have HF := hide_ hF
    clear hD hF
    go_wp2_with fail
    refine (parse_any x w (by omega)).mono ?_; rintro e w1 ⟨v1, rfl, HO1, hB1⟩
    rw [HD.out] at HO1
    rw [HF.out]
    unfold fltv
    have HB1 := hide_ (hB1.alloc hB1.size (.cells #[.int .i64 e0, .int .i64 a0] 29))
    have HK1 := hide_ (Blk.newA w1 #[.int .i64 e0, .int .i64 a0] 29)
    have HO1 := hide_ (ownS_upd HO1.out (Upd.of_below (S := fun _ => False) ((Below.refl _ w1).alloc (Nat.le_refl _) (.cells #[.int .i64 e0, .int .i64 a0] 29))) (fun _ _ h => h))
    clear hB1
    go_upto_region 4 with fail
    generalize hw2 : w1.alloc (.cells #[.int .i64 e0, .int .i64 a0] 29) = w2 at *
    clear hw2
    go_wp2_with fail
    refine (parse_any x w2 (by omega)).mono ?_; rintro e w3 ⟨v3, rfl, HO3, hB3⟩
    rw [HD.out] at HO3
    rw [HF.out]
    unfold fltv
    have hne : Hid (∀ q, v1.ownBlock = some q → v3.ownBlock ≠ some q) := fun q h1 h2 => by
      have e1 := (HO1.out.lt q h1).2
      have e2 := (HO3.out.lt q h2).1
      omega
    have HB3 := hide_ ((HB1.out.trans (hB3.mono HB1.out.size)).alloc (Nat.le_trans HB1.out.size hB3.size) (.cells #[.int .i64 e0, .int .i64 a0] 29))
    have HK13 := hide_ ((HK1.out.later hB3).alloc (.cells #[.int .i64 e0, .int .i64 a0] 29))
    have HK3 := hide_ (Blk.newA w3 #[.int .i64 e0, .int .i64 a0] 29)
    have HO13 := hide_ (ownS_upd (ownS_upd HO1.out (Upd.of_below (S := fun _ => False) hB3) (fun _ _ h => h)) (Upd.of_below (S := fun _ => False) ((Below.refl _ w3).alloc (Nat.le_refl _) (.cells #[.int .i64 e0, .int .i64 a0] 29))) (fun _ _ h => h))
    have HO3 := hide_ (own_mono (ownS_upd HO3.out (Upd.of_below (S := fun _ => False) ((Below.refl _ w3).alloc (Nat.le_refl _) (.cells #[.int .i64 e0, .int .i64 a0] 29))) (fun _ _ h => h)) HB1.out.size)
    clear hB3 HB1 HK1 HO1
    go_upto_region 5 with fail
    generalize hw4 : w3.alloc (.cells #[.int .i64 e0, .int .i64 a0] 29) = w4 at *
    clear hw4
    go_wp2_with fail
    refine (refParse_is x w4 (by omega)).mono ?_; rintro e w5 ⟨v5, rfl, HO5, hB5⟩
    rw [HD.out] at HO5
    rw [HF.out]
    have HB5 := hide_ (HB3.out.trans (hB5.mono HB3.out.size))
    have HK15 := hide_ (HK13.out.later hB5)
    have HK35 := hide_ (HK3.out.later hB5)
    have HO15 := hide_ (ownS_upd HO13.out (Upd.of_below (S := fun _ => False) hB5) (fun _ _ h => h))
    have HO35 := hide_ (ownS_upd HO3.out (Upd.of_below (S := fun _ => False) hB5) (fun _ _ h => h))
    clear hB5 HB3 HK13 HK3 HO13 HO3
    obtain ⟨b1, k1, rfl, r1, -⟩ := own_nrow HO15.out
    obtain ⟨b3, k3, rfl, r3, -⟩ := own_nrow HO35.out
    obtain ⟨b5, k5, rfl, r5, -⟩ := own_nrow HO5.out
    have Hr1 := hide_ r1
    have Hr3 := hide_ r3
    have Hr5 := hide_ r5
    clear r1 r3 r5 HO5
    go_wp2_with fail
    refine (refEqual_any b1 b5 D.length D.length k1 k5 D D w5 rfl rfl (by omega) (by omega) Hr1 Hr5).mono ?_; rintro e w6 ⟨rfl, hB6⟩
    rw [show decide (D = D) = true from decide_eq_true rfl]
    have HB56 := hide_ hB6
    have Hr3b := hide_ (Hr3.out.later hB6)
    have Hr5b := hide_ (Hr5.out.later hB6)
    clear hB6 Hr1 Hr3 Hr5
    go_wp2_with fail
    refine (refEqual_any b3 b5 D.length D.length k3 k5 D D w6 rfl rfl (by omega) (by omega) Hr3b Hr5b).mono ?_; rintro e w7 ⟨rfl, hB7⟩
    rw [show decide (D = D) = true from decide_eq_true rfl]
    have HB57 := hide_ (below_to HB56.out hB7)
    clear hB7 HB56 Hr3b Hr5b
    have K1 := HK15.out.later HB57.out
    have d10 := K1.cell 0; have d11 := K1.cell 1
    simp at d10 d11
    go_wp2_with fail
    refine (fault_any e0 a0 e0 a0 w7).mono ?_; rintro e w8 ⟨rfl, hB8⟩
    rw [show decide (e0 = e0 ∧ a0 = a0) = true by simp]
    have HB58 := hide_ (below_to HB57.out hB8)
    clear hB8 HB57 d10 d11 K1
    have K3 := HK35.out.later HB58.out
    have d30 := K3.cell 0; have d31 := K3.cell 1
    simp at d30 d31
    go_wp2_with fail
    refine (fault_any e0 a0 e0 a0 w8).mono ?_; rintro e w9 ⟨rfl, hB9⟩
    rw [show decide (e0 = e0 ∧ a0 = a0) = true by simp]
    have HB59 := hide_ (below_to HB58.out hB9)
    clear hB9 HB58 d30 d31 K3 HK15 HK35
    have HB9 := hide_ (HB5.out.trans (HB59.out.mono HB5.out.size))
    have HO19 := hide_ (ownS_upd HO15.out (Upd.of_below (S := fun _ => False) HB59.out) (fun _ _ h => h))
    have HO39 := hide_ (ownS_upd HO35.out (Upd.of_below (S := fun _ => False) HB59.out) (fun _ _ h => h))
    clear HB59 HB5 HO15 HO35
    have Hbk := hide_ (hb.out.later HB9.out)
    have z1 : Hid (∀ q, (Value.slice b1 D.length k1).ownBlock = some q → ¬ Z q) := fun q hq e => by
      have h1 := (HO19.out.lt q hq).1
      have h2 := (hb.out.z q e).2
      omega
    go_wp2_with fail
    refine (bk_nodes (D := D) Hbk.out (own_mono HO19.out hb.out.base) z1.out (by omega) (by omega)).mono ?_; rintro e wa ⟨rfl, HI⟩
    obtain ⟨Z2, g2, u2, q2⟩ := HI.out
    have HO3a : Hid (wa.ownsRow w.heap.size 37 3 (.slice b3 D.length k3) D.length (cellsN D)) := ownS_upd HO39.out u2 fun q hq e => by
      rcases e with e | e | e
      · subst e
        obtain ⟨xs, hx⟩ := Hbk.out.tab.2
        obtain ⟨ys, hy⟩ := ownS_type HO39.out hq
        exact absurd (blk_type hx hy) (by decide)
      · exact hne.out q e hq
      · have h1 := (HO39.out.lt q hq).1
        have h2 := (hb.out.z q e).2
        omega
    have z2 : Hid (∀ q, (Value.slice b3 D.length k3).ownBlock = some q → ¬ Z2 q) := fun q hq e => by
      have h1 := (HO39.out.lt q hq)
      rcases q2 q e with h | h | h
      · have h2 := (hb.out.z q h).2
        omega
      · exact hne.out q h hq
      · omega
    have Hg2 := hide_ g2
    have Hu2 := hide_ u2
    have Hq2 := hide_ q2
    clear HI g2 u2 q2
    go_wp2_with fail
    refine (bk_nodes (D := D) Hg2.out (own_mono HO3a.out hb.out.base) z2.out (by omega) (by omega)).mono ?_; rintro e wb ⟨rfl, HJ⟩
    obtain ⟨Z3, g3, u3, q3⟩ := HJ.out
    have fin : Hid (BkTo B w wb bt (N + 2) Z) := bk_two HB9.out (fun q hq => (HO19.out.lt q hq).1) (fun q hq => (HO39.out.lt q hq).1) Hu2.out Hq2.out u3 q3 g3
    clear HJ g3 u3 q3
    go_wp2
    go_ret
    exact ⟨by first | rfl | simp, fin⟩
end Go.Proofs.YtlbgdgobhiokpaaDoor

/- plays. -/
namespace Go.Proofs.YtlbgdgobhiokpaaDoor
open Go.RowKit
set_option linter.unusedVariables false

theorem cellsN_set1 : ∀ (N : List Nd) (i : Nat) (u : Int), i < N.length → (cellsN N).set (i * 3 + 1) (.int .u64 u) = cellsN (N.set i ((N.getD i nil0).1, u, (N.getD i nil0).2.2))
  | [], i, u, h => by simp at h
  | y :: N, 0, u, h => by simp [cellsN, ndc]
  | y :: N, i + 1, u, h => by
    have e : ∀ M : List Nd, cellsN (y :: M) = ndc y ++ cellsN M := fun M => by simp [cellsN]
    have hl : (ndc y).length = 3 := rfl
    rw [List.set_cons_succ, e, e, List.set_append_right _ _ (by rw [hl]; omega), hl, show (i + 1) * 3 + 1 - 3 = i * 3 + 1 by omega, cellsN_set1 N i u (by simpa using h)]
    simp
section
variable {B m cap g : Nat} {w : World} {L : List Nd}
theorem own_put1 (h : w.ownsRow B 37 3 (.slice (some ⟨g, 0, none⟩) m cap) L.length (cellsN L)) (j : Nat) (hj : j < L.length) (u : Int) :
    (w.setCell ⟨g, j * 3 + 1, none⟩ (.int .u64 u)).ownsRow B 37 3 (.slice (some ⟨g, 0, none⟩) m cap) L.length (cellsN (L.set j ((L.getD j nil0).1, u, (L.getD j nil0).2.2))) := by
  obtain ⟨g', cap', ys, e, hb, hn, hm, hl, ht, hK⟩ := ownS_blk h (by omega)
  have e0 : g = g' ∧ m = L.length ∧ cap = cap' := by simpa using e
  obtain ⟨rfl, rfl, rfl⟩ := e0
  have h9 := ownS_of_blk (n := L.length) (c := 3) (hK.set (j * 3 + 1) (.int .u64 u)) hb (by rw [List.length_set]; exact hl) hn hm
  rw [List.take_set, ht, cellsN_set1 L j u hj] at h9
  exact h9
theorem own_put3 (h : w.ownsRow B 37 3 (.slice (some ⟨g, 0, none⟩) m cap) L.length (cellsN L)) (j : Nat) (hj : j < L.length) (x : Nd) :
    (((w.setCell ⟨g, j * 3, none⟩ (.int .i64 x.1)).setCell ⟨g, j * 3 + 1, none⟩ (.int .u64 x.2.1)).setCell ⟨g, j * 3 + 2, none⟩ (.int .i64 x.2.2)).ownsRow B 37 3 (.slice (some ⟨g, 0, none⟩) m cap) L.length (cellsN (L.set j x)) := by
  obtain ⟨g', cap', ys, e, hb, hn, hm, hl, ht, hK⟩ := ownS_blk h (by omega)
  have e0 : g = g' ∧ m = L.length ∧ cap = cap' := by simpa using e
  obtain ⟨rfl, rfl, rfl⟩ := e0
  have h9 := ownS_of_blk (n := L.length) (c := 3) (((hK.set (j * 3) (.int .i64 x.1)).set (j * 3 + 1) (.int .u64 x.2.1)).set (j * 3 + 2) (.int .i64 x.2.2)) hb (by rw [List.length_set, List.length_set, List.length_set]; exact hl) hn hm
  rw [List.take_set, List.take_set, List.take_set, ht, cellsN_set3 L j x hj] at h9
  exact h9
end
section
variable {B : Nat} {w w2 w5 w6 w' : World} {bt N M : Nat} {Z Z2 S : Nat → Prop}
theorem BkTo.mono (k : BkTo B w w' bt N Z) (h : N ≤ M) : BkTo B w w' bt M Z := by
  obtain ⟨Z', k1, k2, k3⟩ := k
  exact ⟨Z', k1.mono h, k2, k3⟩
theorem bk_comp (u1 : Upd (fun q => q = bt ∨ Z q) w w2) (z1 : ∀ q, Z2 q → Z q ∨ w.heap.size ≤ q) (u2 : Upd S w2 w5) (hS : ∀ q, S q → w.heap.size ≤ q) (k : BkTo B w5 w6 bt M Z2) : BkTo B w w6 bt M Z := by
  obtain ⟨Z', k1, k2, k3⟩ := k
  have u3 : Upd (fun q => q = bt ∨ Z q) w w5 := u1.trans u2 fun q hlt h => by have := hS q h; omega
  refine ⟨Z', k1, u3.trans k2 fun q hlt h => ?_, fun q hq => ?_⟩
  · rcases h with h | h
    · exact .inl h
    · rcases z1 q h with h | h
      · exact .inr h
      · omega
  · rcases k3 q hq with h | h
    · exact z1 q h
    · exact .inr (Nat.le_trans u3.size h)
end
theorem turned (K : Int) (n : Nat) (hn : 0 < n) : ∃ j : Nat, j < n ∧ Int.tmod (Int.tmod K n + n) n = (j : Int) ∧ -(n : Int) < Int.tmod K n ∧ Int.tmod K n < n := by
  have h1 : -(n : Int) < Int.tmod K n ∧ Int.tmod K n < n := by
    have ha := Int.tmod_lt_of_pos K (show (0 : Int) < n by omega)
    have hb := Int.lt_tmod_of_pos K (show (0 : Int) < n by omega)
    exact ⟨by simpa using hb, ha⟩
  refine ⟨((Int.tmod K n + n) % n).toNat, ?_, ?_, h1.1, h1.2⟩
  · have := Int.emod_lt_of_pos (Int.tmod K n + n) (show (0 : Int) < n by omega)
    omega
  · rw [Int.tmod_eq_emod_of_nonneg (by omega)]
    have := Int.emod_nonneg (Int.tmod K n + n) (show (n : Int) ≠ 0 by omega)
    omega
theorem NatN.set {l : List Nd} (h : NatN l) (j : Nat) (x : Nd) (hx : 0 ≤ x.2.1 ∧ x.2.1 ≤ 18446744073709551615) : NatN (l.set j x) := by
  intro y hy
  rcases List.mem_or_eq_of_mem_set hy with h1 | h1
  · exact h y h1
  · rw [h1]; exact hx
end Go.Proofs.YtlbgdgobhiokpaaDoor

/- plays: the walk. -/
namespace Go.Proofs.YtlbgdgobhiokpaaDoor
open Go.RowKit
set_option linter.unusedVariables false

theorem NRow.keep {B : Nat} {S : Nat → Prop} {w w' : World} {a : Option Addr} {l : List Nd} (h : NRow w a l) (hb : l ≠ [] → ∀ x, a = some x → x.block < B) (hu : Upd S w w') (hS : ∀ q, S q → B ≤ q) : NRow w' a l := by
  by_cases hl : l = []
  · exact .inl hl
  · exact h.upd hu fun x hx e => by have h1 := hb hl x hx; have h2 := hS _ e; omega
theorem NRow.keepB {B : Nat} {w w' : World} {a : Option Addr} {l : List Nd} (h : NRow w a l) (hb : l ≠ [] → ∀ x, a = some x → x.block < B) (hB : Below B w w') : NRow w' a l := by
  by_cases hl : l = []
  · exact .inl hl
  · exact h.below hB (hb hl)
theorem cell_set_ne (w : World) (g i k : Nat) (u : Value) (h : k ≠ i) : (w.setCell ⟨g, i, none⟩ u).cell? ⟨g, k, none⟩ = w.cell? ⟨g, k, none⟩ := by
  exact World.cell?_setCell_other (h := (by intro e; injection e with _ e _; omega)) ..
theorem cell_set_eq (w : World) (g i : Nat) (u v : Value) (h : w.cell? ⟨g, i, none⟩ = some v) : (w.setCell ⟨g, i, none⟩ u).cell? ⟨g, i, none⟩ = some u := by
  exact World.cell?_setCell_same (h := h) ..
set_option maxRecDepth 100000 in
set_option maxHeartbeats 8000000 in
theorem plays_any (B bt N : Nat) (Z : Nat → Prop) (kd : Int) (aV : Option Addr) (nV kV : Nat) (aW : Option Addr) (nW kW : Nat) (p kk : Int) (s : ByteArray) (lV lW : List Nd) (w : World)
    (hb : Hid (Bk B w bt N Z)) (hN : N ≤ 700) (hlV : lV.length = nV) (hnV : nV ≤ 9223372036854775807) (hkV : nV ≤ kV) (hrV : Hid (NRow w aV lV)) (hVn : aV = none → kV = 0) (hVb : Hid (lV ≠ [] → ∀ x, aV = some x → x.block < B)) (hnat : Hid (NatN lV))
    (hlW : lW.length = nW) (hnW : nW ≤ 9223372036854775807) (hkW : nW ≤ kW) (hrW : Hid (NRow w aW lW)) (hWn : aW = none → kW = 0) (hWb : Hid (lW ≠ [] → ∀ x, aW = some x → x.block < B)) (hkk : -9223372036854775808 ≤ kk ∧ kk ≤ 9223372036854775807) (ht : Hid (Tab B w)) :
    Calls Tryd.prog 32 #[.pointer (some ⟨bt, 0, none⟩), opv kd aV nV kV aW nW kW p kk s] w fun e w' => e = .returned (.bool true) ∧ Hid (BkTo B w w' bt (N + 4) Z) := by
  unfold opv
  obtain ⟨wA, hwA⟩ : ∃ wA, wA = w.alloc (.cells #[.int .i64 kd, .slice aV nV kV, .slice aW nW kW, .int .i64 p, .int .i64 kk, .string s] 81) := ⟨_, rfl⟩
  have KA : Hid (Blk wA w.heap.size 81 [.int .i64 kd, .slice aV nV kV, .slice aW nW kW, .int .i64 p, .int .i64 kk, .string s]) := by rw [hwA]; exact Blk.newA w _ 81
  have HBA : Hid (Below w.heap.size w wA) := by rw [hwA]; exact (Below.refl _ _).alloc (Nat.le_refl _) _
  have c0 : wA.cell? ⟨w.heap.size, 0, none⟩ = some (.int .i64 kd) := KA.out.cell 0
  have c1 : wA.cell? ⟨w.heap.size, 1, none⟩ = some (.slice aV nV kV) := KA.out.cell 1
  have c5 : wA.cell? ⟨w.heap.size, 5, none⟩ = some (.string s) := KA.out.cell 5
  have hsA : w.heap.size < wA.heap.size := KA.out.lt
  go_enter Tryd.func32, Tryd.ntmps32
  go_upto_region 1 with fail
  rw [← hwA]
  clear hwA
  by_cases h7 : kd = 7
  · subst h7
    go_wp2_with fail
    refine (parses_any B bt N Z s wA (hb.out.later HBA.out) (by omega)).mono ?_; rintro e w1 ⟨rfl, HT⟩
    go_wp2
    go_ret
    exact ⟨rfl, (BkTo.after HBA.out HT.out).mono (by omega)⟩
  have h7b : (kd == 7) = false := by simpa using h7
  obtain ⟨n, hnc⟩ : ∃ nc, min nV 400 = nc := ⟨_, rfl⟩
  obtain ⟨l, hlc⟩ : ∃ lc, lV.take n = lc := ⟨_, rfl⟩
  have hl : l.length = n := by rw [← hlc, List.length_take, hlV]; omega
  have hn4 : n ≤ 400 := by omega
  have hnk : n ≤ kV := by omega
  have HRl : Hid (NRow w aV l) := by rw [← hlc]; exact hrV.out.take n
  have HVb : Hid (l ≠ [] → ∀ x, aV = some x → x.block < B) := fun h => hVb.out (fun e => h (by rw [← hlc, e]; simp))
  have HNl : Hid (NatN l) := by rw [← hlc]; exact fun x hx => hnat.out x (List.mem_of_mem_take hx)
  have HCut := cut_any aV nV kV lV wA hlV hnV hkV (hrV.out.later HBA.out)
  rw [hnc] at HCut
  have HCut := hide_ HCut
  clear hnc hlc hrV hnat
  go_wp2_with fail
  refine HCut.out.mono ?_; rintro e w' ⟨rfl, rfl⟩
  clear HCut
  go_wp2_with fail
  refine (lent_any aV n kV l wA hl (by omega) hVn (HRl.out.later HBA.out)).mono ?_; intro e w1 HL1
  obtain ⟨g, cap, rfl, hg, hc, ho, hB1⟩ := HL1.out
  rw [hl] at hc ho ⊢
  have hcm' : cap ≤ 9223372036854775807 := by
    obtain ⟨g', cap', ys', e, _, _, hm, _⟩ := ownS_blk ho (by omega)
    have e0 : g = g' ∧ cap = cap' := by simpa using e
    rw [e0.2]
    exact hm
  have HB1 := hide_ (HBA.out.trans (hB1.mono HBA.out.size))
  have HO1 : Hid (w1.ownsRow wA.heap.size 37 3 (.slice (some ⟨g, 0, none⟩) (n + 1) cap) (l ++ [markN]).length (cellsN (l ++ [markN]))) := by rw [List.length_append, hl]; exact ho
  have HK1 := hide_ (KA.out.later hB1)
  have hgl : g < w1.heap.size := (ho.lt g rfl).2
  have hgb : g ≠ bt := by
    intro e
    subst e
    obtain ⟨xs, hx⟩ := (hb.out.later HB1.out).tab.2
    obtain ⟨ys, hy⟩ := ownS_type ho (k := g) rfl
    exact absurd (blk_type hx hy) (by decide)
  clear hB1 ho HL1 KA
  have d0 : w1.cell? ⟨w.heap.size, 0, none⟩ = some (.int .i64 kd) := HK1.out.cell 0
  have d1 : w1.cell? ⟨w.heap.size, 1, none⟩ = some (.slice aV nV kV) := HK1.out.cell 1
  have d2 : w1.cell? ⟨w.heap.size, 2, none⟩ = some (.slice aW nW kW) := HK1.out.cell 2
  have d3 : w1.cell? ⟨w.heap.size, 3, none⟩ = some (.int .i64 p) := HK1.out.cell 3
  have d4 : w1.cell? ⟨w.heap.size, 4, none⟩ = some (.int .i64 kk) := HK1.out.cell 4
  have d5 : w1.cell? ⟨w.heap.size, 5, none⟩ = some (.string s) := HK1.out.cell 5
  have HM1 := hide_ (own_nrow1 HO1.out)
  have Hl1 : Hid (NRow w1 (some ⟨g, 0, none⟩) l) := by
    have := HM1.out.take l.length
    rw [List.take_left'] at this
    · exact this
    · rfl
  have Hbk1 := hide_ (hb.out.later HB1.out)
  have hbs := hb.out.base
  have HAsk := hide_ (asks_any B bt N Z kd aV nV kV aW nW kW p kk s g cap n kV aV l lW w1 Hbk1 (by omega) hl hn4 (by omega) hcm' Hl1 (HRl.out.later HB1.out) hVn HNl hlW hnW hkW (hrW.out.later HB1.out) hWn ((ht.out.below (HB1.out.mono hbs)).mono (Nat.le_trans hbs HB1.out.size)))
  unfold opv at HAsk
  go_wp2_with fail
  refine HAsk.out.mono ?_; rintro e w2 ⟨rfl, HT2⟩
  clear HAsk d0 d1 d2 d3 d4 d5 c0 c1 c5 Hl1
  obtain ⟨Z2, b2, u2, z2⟩ := HT2.out
  have hZ := hb.out.z
  have hbt := hb.out.tab.2
  have hnoZ : ∀ q, w.heap.size ≤ q → ¬ Z q := fun q hq e => by have := (hZ q e).2; omega
  have hbtl : bt < w.heap.size := by obtain ⟨xs, hx⟩ := hbt; exact hx.lt
  have hB2 : B ≤ bt := hb.out.tab.1
  have HK2 := hide_ (HK1.out.upd u2 (fun e => by
    rcases e with e | e
    · omega
    · exact hnoZ _ (Nat.le_refl _) e))
  have HO2 := hide_ (ownS_upd HO1.out u2 (fun q hq e => by
    have e1 : g = q := own_is hq
    rcases e with e | e
    · exact hgb (e1.trans e)
    · exact hnoZ q (by omega) e))
  have HV2 := hide_ ((HRl.out.later HB1.out).keep HVb.out u2 (fun q e => by
    rcases e with e | e
    · omega
    · exact (hZ _ e).1))
  have HM2 := hide_ (own_nrow1 HO2.out)
  have Hb2 := hide_ b2
  have Hu2 : Hid (Upd (fun q => q = bt ∨ Z q) w w2) := (Upd.of_below (S := fun q => q = bt ∨ Z q) HB1.out).trans u2 (fun q _ h => h)
  have Hz2 : Hid (∀ q, Z2 q → Z q ∨ w1.heap.size ≤ q) := z2
  have hs12 : w1.heap.size ≤ w2.heap.size := u2.size
  clear HT2 b2 u2 z2 HK1 HO1 HM1 Hbk1
  go_wp2_with fail
  refine (kept_any g cap n kV aV l w2 hl (by omega) hc HM2 HV2).mono ?_; rintro e w3 ⟨rfl, HB3⟩
  have hs13 : w1.heap.size ≤ w3.heap.size := Nat.le_trans hs12 HB3.out.size
  have Hs3 : Hid (w.heap.size ≤ w3.heap.size) := Nat.le_trans Hu2.out.size HB3.out.size
  have Hz2' : Hid (∀ q, Z2 q → Z q ∨ w.heap.size ≤ q) := fun q hq => (Hz2.out q hq).imp id (fun h => Nat.le_trans HB1.out.size h)
  by_cases h0 : n = 0
  · have h0b : ((n : Int) == 0) = true := by simp [h0]
    have fin : Hid (BkTo B w w3 bt (N + 4) Z) := bk_comp Hu2.out Hz2'.out (Upd.of_below (S := fun _ => False) HB3.out) (fun _ h => h.elim) (BkTo.later (Hb2.out.later HB3.out) (Below.refl _ _) (by omega))
    clear h0
    go_wp2
    go_ret
    exact ⟨rfl, fin⟩
  have h0b : ((n : Int) == 0) = false := by simp; exact h0
  have HK3 := hide_ (HK2.out.later HB3.out)
  have HO3 := hide_ (ownS_upd HO2.out (Upd.of_below (S := fun _ => False) HB3.out) (fun _ _ h => h))
  have HV3 := hide_ (HV2.out.later HB3.out)
  have Hb3 := hide_ (Hb2.out.later HB3.out)
  have Hu3 : Hid (Upd (fun q => q = bt ∨ Z q) w w3) := Hu2.out.then HB3.out
  clear HK2 HO2 HV2 HM2 Hb2 HB3
  obtain ⟨v4, w4, r4, o4, g4⟩ := run_copyN w3 w3.heap.size aV n kV l hl HV3.out hVn (by omega) (Nat.le_refl _)
  have B4 : Below w3.heap.size w3 w4 := ((Upd.refl (fun _ => False) w3).grown g4 (fun k hk => by cases hk)).below _ (Nat.le_refl _) (fun _ h => h.elim)
  obtain ⟨gn, cn, yn, hv4, hbn, hnn, hmn, -, -, hKn⟩ := ownS_blk o4 (by omega)
  subst hv4
  have R4 := hide_ r4
  have HK4 := hide_ (HK3.out.later B4)
  have HO4 := hide_ (ownS_upd HO3.out (Upd.of_below (S := fun _ => False) B4) (fun _ _ h => h))
  have HN4 : Hid (w4.ownsRow w3.heap.size 37 3 (.slice (some ⟨gn, 0, none⟩) n cn) l.length (cellsN l)) := by rw [hl]; exact o4
  have Hb4 := hide_ (Hb3.out.later B4)
  have HB34 := hide_ B4
  have hgn : gn ≠ g := fun e => by
    have h1 := (HO3.out.lt g rfl).2
    omega
  have HZ3 : Hid (∀ q, Z2 q → q < w3.heap.size) := fun q hq => (Hb3.out.z q hq).2
  clear r4 o4 g4 B4 hKn HK3 HO3 HV3 Hb3
  obtain ⟨j, hj, ej, em1, em2⟩ := turned kk n (by omega)
  obtain ⟨rm, hrm⟩ : ∃ rm, Int.tmod kk n = rm := ⟨_, rfl⟩
  rw [hrm] at ej em1 em2
  have d4 : w4.cell? ⟨w.heap.size, 4, none⟩ = some (.int .i64 kk) := HK4.out.cell 4
  have hn0' : ¬ ((n : Int) = 0) := by omega
  have hj' : (j : Int) < n := by omega
  obtain ⟨bn, on, ebn, hbnl, hcn⟩ := (own_nrow1 HN4.out).open (by omega)
  injection ebn with ebn
  injection ebn with ebn1 ebn2 _
  subst ebn1 ebn2
  obtain ⟨x0, x1, x2⟩ := hcn j (by omega)
  obtain ⟨X, hX⟩ : ∃ X, l.getD j nil0 = X := ⟨_, rfl⟩
  rw [hX] at x0 x1 x2
  simp only [Nat.zero_add] at x0 x1 x2
  clear hcn
  obtain ⟨y, hy⟩ : ∃ y, bits BinOp.xor IntKind.u64 X.2.1 1 = y := ⟨_, rfl⟩
  have hyb : 0 ≤ y ∧ y ≤ 18446744073709551615 := by rw [← hy]; exact bits_within .xor .u64 X.2.1 1
  have hfn : w4.frozen? ⟨gn, j * 3 + 1, none⟩ = false := by
    obtain ⟨g', cap', ys', e, _, _, _, _, _, hK⟩ := ownS_blk HN4.out (by omega)
    have e0 : gn = g' := by
      injection e with e1 _ _
      injection e1 with e1
      injection e1
    rw [e0]
    exact hK.frozen _
  have hXb : X.2.2 = X.2.2 := rfl
  obtain ⟨l', hl'⟩ : ∃ l', l.set j (X.1, y, X.2.2) = l' := ⟨_, rfl⟩
  have hll : l'.length = n := by rw [← hl', List.length_set, hl]
  have HNl' : Hid (NatN l') := by rw [← hl']; exact HNl.out.set j _ hyb
  obtain ⟨wX, hwX⟩ : ∃ wX, wX = w4.setCell ⟨gn, j * 3 + 1, none⟩ (.int .u64 y) := ⟨_, rfl⟩
  have uX : Upd (fun q => q = gn ∨ q = g) w4 wX := by rw [hwX]; exact (Upd.refl _ w4).set _ _ (.inl (.inl rfl))
  have HNX : wX.ownsRow w3.heap.size 37 3 (.slice (some ⟨gn, 0, none⟩) n cn) l.length (cellsN l') := by
    have h := own_put1 HN4.out j (by omega) y
    rw [hX, hl'] at h
    rw [hwX]
    exact h
  have HOX : wX.ownsRow wA.heap.size 37 3 (.slice (some ⟨g, 0, none⟩) (n + 1) cap) (l ++ [markN]).length (cellsN (l ++ [markN])) := by
    rw [hwX]
    exact ownS_upd HO4.out ((Upd.refl (fun q => q = gn) w4).set _ _ (.inl rfl)) (fun q hq e => hgn (e.symm.trans (own_is hq).symm))
  obtain ⟨w5, hw5⟩ : ∃ w5, w5 = ((wX.setCell ⟨g, j * 3, none⟩ (.int .i64 X.1)).setCell ⟨g, j * 3 + 1, none⟩ (.int .u64 y)).setCell ⟨g, j * 3 + 2, none⟩ (.int .i64 X.2.2) := ⟨_, rfl⟩
  have u5 : Upd (fun q => q = g) wX w5 := by rw [hw5]; exact (((Upd.refl (fun q => q = g) wX).set _ _ (.inl rfl)).set _ _ (.inl rfl)).set _ _ (.inl rfl)
  have HO5 : Hid (w5.ownsRow wA.heap.size 37 3 (.slice (some ⟨g, 0, none⟩) (n + 1) cap) (l' ++ [markN]).length (cellsN (l' ++ [markN]))) := by
    have h := own_put3 HOX j (by rw [List.length_append]; omega) (X.1, y, X.2.2)
    rw [List.set_append_left _ _ (by omega), hl'] at h
    rw [hw5, List.length_append, hll]
    rw [List.length_append, hl] at h
    exact h
  have HN5 : Hid (w5.ownsRow w3.heap.size 37 3 (.slice (some ⟨gn, 0, none⟩) n cn) l'.length (cellsN l')) := by
    have h := ownS_upd HNX u5 (fun q hq e => hgn ((own_is hq).trans e))
    rw [hl] at h
    rw [hll]
    exact h
  have u45 : Hid (Upd (fun q => q = gn ∨ q = g) w4 w5) := uX.trans u5 (fun q _ h => .inr h)
  have hgnl : w3.heap.size ≤ gn := hbn
  have hZ2 : ∀ q, Z2 q → q < w3.heap.size := fun q hq => HZ3.out q hq
  have hgnb : gn ≠ bt := fun e => by have := Hs3.out; omega
  have nz1 : ¬ Z2 gn := fun e => by have := hZ2 gn e; omega
  have nz2 : ¬ Z2 g := fun e => by
    rcases Hz2.out g e with h | h
    · have := (hZ g h).2; omega
    · omega
  have Hb5 : Hid (Bk B w5 bt (N + 2) Z2) := Hb4.out.upd u45.out (fun q hq e => by
    rcases e with rfl | rfl
    · rcases hq with h | h
      · exact hgnb h
      · exact nz1 h
    · rcases hq with h | h
      · exact hgb h
      · exact nz2 h)
  have HK5 := hide_ (HK4.out.upd u45.out (fun e => by
    rcases e with e | e
    · have := Hs3.out; omega
    · omega))
  have u35 : Hid (Upd (fun q => q = gn ∨ q = g) w3 w5) := (Upd.of_below (S := fun q => q = gn ∨ q = g) HB34.out).trans u45.out (fun q _ h => h)
  have HBB5 : Hid (Below B w w5) := (Hu3.out.below B hbs (fun q hq => by
    rcases hq with rfl | hq
    · exact hB2
    · exact (hZ q hq).1)).trans (u35.out.below B (Nat.le_trans hbs Hs3.out) (fun q hq => by
    rcases hq with rfl | rfl
    · have := Hs3.out; omega
    · omega))
  have HM5 := hide_ (own_nrow1 HO5.out)
  have Hl5 : Hid (NRow w5 (some ⟨g, 0, none⟩) l') := by
    have := HM5.out.take l'.length
    rw [List.take_left'] at this
    · exact this
    · rfl
  have Hn5 := hide_ (own_nrow1 HN5.out)
  have Hs5 : Hid (w.heap.size ≤ w5.heap.size) := Nat.le_trans Hs3.out u35.out.size
  have HAsk := hide_ (asks_any B bt (N + 2) Z2 kd aV nV kV aW nW kW p kk s g cap n cn (some ⟨gn, 0, none⟩) l' lW w5 Hb5 (by omega) hll hn4 (by omega) hcm' Hl5 Hn5 (fun h => by cases h) HNl' hlW hnW hkW (hrW.out.keepB hWb.out HBB5.out) hWn ((ht.out.below HBB5.out).mono (Nat.le_trans hbs Hs5.out)))
  unfold opv at HAsk
  have q0 : w5.cell? ⟨w.heap.size, 0, none⟩ = some (.int .i64 kd) := HK5.out.cell 0
  have q1 : w5.cell? ⟨w.heap.size, 1, none⟩ = some (.slice aV nV kV) := HK5.out.cell 1
  have q2 : w5.cell? ⟨w.heap.size, 2, none⟩ = some (.slice aW nW kW) := HK5.out.cell 2
  have q3 : w5.cell? ⟨w.heap.size, 3, none⟩ = some (.int .i64 p) := HK5.out.cell 3
  have q4 : w5.cell? ⟨w.heap.size, 4, none⟩ = some (.int .i64 kk) := HK5.out.cell 4
  have q5 : w5.cell? ⟨w.heap.size, 5, none⟩ = some (.string s) := HK5.out.cell 5
  have hgo : (∃ a0, wX.cell? ⟨g, j * 3, none⟩ = some a0) ∧ (∃ a1, wX.cell? ⟨g, j * 3 + 1, none⟩ = some a1) ∧ (∃ a2, wX.cell? ⟨g, j * 3 + 2, none⟩ = some a2) ∧ wX.frozen? ⟨g, j * 3, none⟩ = false ∧ wX.frozen? ⟨g, j * 3 + 1, none⟩ = false ∧ wX.frozen? ⟨g, j * 3 + 2, none⟩ = false := by
    obtain ⟨g', cap', ys', e, _, hnc', _, hlen, _, hK⟩ := ownS_blk HOX (by rw [List.length_append]; omega)
    have e0 : g = g' := by
      injection e with e1 _ _
      injection e1 with e1
      injection e1
    have e3 : cap = cap' := by
      injection e
    subst e0
    rw [← e3] at hlen
    refine ⟨?_, ?_, ?_, hK.frozen _, hK.frozen _, hK.frozen _⟩
    · exact ⟨_, (hK.cell _).trans (List.getElem?_eq_getElem (by rw [hlen]; omega))⟩
    · exact ⟨_, (hK.cell _).trans (List.getElem?_eq_getElem (by rw [hlen]; omega))⟩
    · exact ⟨_, (hK.cell _).trans (List.getElem?_eq_getElem (by rw [hlen]; omega))⟩
  obtain ⟨⟨s0, t0⟩, ⟨s1, t1⟩, ⟨s2, t2⟩, f0, f1, f2⟩ := hgo
  have y0 : wX.cell? ⟨gn, j * 3, none⟩ = some (.int .i64 X.1) := by
    rw [hwX]
    exact (cell_set_ne w4 gn (j * 3 + 1) (j * 3) _ (by omega)).trans x0
  have y1 : wX.cell? ⟨gn, j * 3 + 1, none⟩ = some (.int .u64 y) := by
    rw [hwX]
    exact cell_set_eq w4 gn (j * 3 + 1) _ _ x1
  have y2 : wX.cell? ⟨gn, j * 3 + 2, none⟩ = some (.int .i64 X.2.2) := by
    rw [hwX]
    exact (cell_set_ne w4 gn (j * 3 + 1) (j * 3 + 2) _ (by omega)).trans x2
  have hr1 : -9223372036854775808 ≤ rm ∧ rm ≤ 9223372036854775807 := by omega
  clear HNX HOX uX u5 hl' hX hXb
  go_upto_region 12 with (at_builtin; have _t := R4; refine wpList_append_run rfl (.const (.slice none 0 0)) (.tmp 36) 22 22 rfl rfl rfl R4.out ?_; clear R4)
  rw [← hwX]
  clear hwX x0 x1 x2 d4 hfn
  go_upto_region 13 with fail
  rw [← hw5]
  clear hw5 y0 y1 y2 t0 t1 t2 f0 f1 f2
  go_wp2_with fail
  refine HAsk.out.mono ?_; rintro e w6 ⟨rfl, HT6⟩
  clear HAsk q0 q1 q2 q3 q4 q5 Hl5
  have HM6 := hide_ (HT6.out.row HM5.out (fun x hx => by cases hx; exact ⟨hgb, nz2⟩))
  have Hn6 := hide_ (HT6.out.row Hn5.out (fun x hx => by cases hx; exact ⟨hgnb, nz1⟩))
  have fin : Hid (BkTo B w w6 bt (N + 4) Z) := bk_comp Hu3.out Hz2'.out u35.out (fun q hq => by
    rcases hq with rfl | rfl
    · have := Hs3.out; omega
    · omega) HT6.out
  clear HT6 HM5 Hn5
  go_wp2_with fail
  refine (kept_any g cap n cn (some ⟨gn, 0, none⟩) l' w6 hll (by omega) hc HM6 Hn6).mono ?_; rintro e w7 ⟨rfl, HB7⟩
  go_wp2
  go_ret
  exact ⟨by first | rfl | simp, fin.out.then HB7.out⟩
end Go.Proofs.YtlbgdgobhiokpaaDoor

/- ValueExact: the walk. -/
namespace Go.Proofs.YtlbgdgobhiokpaaDoor
open Go.RowKit
set_option linter.unusedVariables false

/-- A call of the script. -/
structure Opr where
  kd : Int
  aV : Option Addr
  nV : Nat
  kV : Nat
  aW : Option Addr
  nW : Nat
  kW : Nat
  p : Int
  kk : Int
  s : ByteArray
  lV : List Nd
  lW : List Nd
def opr0 : Opr := ⟨0, none, 0, 0, none, 0, 0, 0, 0, ⟨#[]⟩, [], []⟩
def opC (x : Opr) : List Value := [.int .i64 x.kd, .slice x.aV x.nV x.kV, .slice x.aW x.nW x.kW, .int .i64 x.p, .int .i64 x.kk, .string x.s]
structure FitsO (w : World) (x : Opr) : Prop where
  lv : x.lV.length = x.nV
  mv : x.nV ≤ 9223372036854775807
  cv : x.nV ≤ x.kV
  rv : NRow w x.aV x.lV
  zv : x.aV = none → x.kV = 0
  bv : x.lV ≠ [] → ∀ y, x.aV = some y → y.block < w.heap.size
  fv : NatN x.lV
  lw : x.lW.length = x.nW
  mw : x.nW ≤ 9223372036854775807
  cw : x.nW ≤ x.kW
  rw : NRow w x.aW x.lW
  zw : x.aW = none → x.kW = 0
  bw : x.lW ≠ [] → ∀ y, x.aW = some y → y.block < w.heap.size
  kk : -9223372036854775808 ≤ x.kk ∧ x.kk ≤ 9223372036854775807
def ORaw (w : World) (a : Option Addr) (l : List Opr) : Prop := l = [] ∨ ∃ b off, a = some ⟨b, off, none⟩ ∧ b < w.heap.size ∧ ∀ i, i < l.length → ∀ j, j < 6 → w.cell? ⟨b, off + i * 6 + j, none⟩ = (opC (l.getD i opr0))[j]?
set_option maxRecDepth 100000 in
set_option maxHeartbeats 8000000 in
theorem exact_any (a : Option Addr) (len cap : Nat) (L : List Opr) (w : World) (hl : Hid (L.length = len)) (hm : len ≤ 9223372036854775807) (hr : Hid (ORaw w a L)) (hf : Hid (∀ x ∈ L, FitsO w x)) (ht : Hid (Tab w.heap.size w)) :
    Calls Tryd.prog 8 #[.slice a len cap] w fun e w' => e = .returned (.bool true) ∧ Below w.heap.size w w' := by
  go_enter Tryd.func8, Tryd.ntmps8
  go_wp2_with fail
  refine (awake_any w ht).mono ?_; rintro e w1 ⟨rfl, hB1⟩
  obtain ⟨wA, hwA⟩ : ∃ wA, wA = w1.alloc (.cells #[.slice none 0 0, .slice none 0 0, .slice none 0 0, .slice none 0 0] 70) := ⟨_, rfl⟩
  have KA : Blk wA w1.heap.size 70 [.slice none 0 0, .slice none 0 0, .slice none 0 0, .slice none 0 0] := by rw [hwA]; exact Blk.newA w1 _ 70
  have BA : Below w1.heap.size w1 wA := by rw [hwA]; exact (Below.refl _ _).alloc (Nat.le_refl _) _
  have HG0 : Hid (∃ Z, Bk w1.heap.size wA w1.heap.size (4 * 0) Z) := ⟨fun _ => False, _, _, _, _, 0, 0, _, _, _, _, _, _, ⟨Half.none 22 37 3 mkN w1.heap.size wA, KA, Nat.le_refl _⟩, Half.none 43 3 1 mkP w1.heap.size wA, Nat.le_refl _, Nat.le_refl _, fun q hq => by
    rcases hq with hq | hq
    · rcases hq with hq | hq | ⟨j, hj, _⟩
      · simp [Value.ownBlock] at hq
      · simp [Value.ownBlock] at hq
      · omega
    · rcases hq with hq | hq | ⟨j, hj, _⟩
      · simp [Value.ownBlock] at hq
      · simp [Value.ownBlock] at hq
      · omega, fun q hq => hq.elim⟩
  have HBA : Hid (Below w.heap.size w wA) := hB1.trans (BA.mono hB1.size)
  have hsz : w.heap.size ≤ w1.heap.size := hB1.size
  have HTb : Hid (Tab w.heap.size w1) := ht.out.below hB1
  have HBA1 : Hid (Below w1.heap.size w1 wA) := BA
  clear hB1 KA BA ht
  go_upto_region 4 with fail
  rw [← hwA]
  clear hwA
  go_wp2_with fail
  go_loopw [4] (fun x wr => ∃ k : Nat, x = .int .i64 k ∧ k ≤ len ∧ k ≤ 60 ∧ Hid (∃ Z, Bk w1.heap.size wr w1.heap.size (4 * k) Z) ∧ Hid (Below w.heap.size w wr) ∧ Hid (Below w1.heap.size w1 wr)) (fun x _ => 60 - (intOf x).toNat)
  case atStart => exact ⟨0, rfl, Nat.zero_le _, Nat.zero_le _, HG0, HBA, HBA1⟩
  case round =>
    clear HG0 HBA HBA1
    obtain ⟨k, rfl, hk, hk6, HG, HB, HB1⟩ := hrel
    generalize wr = wq at *
    by_cases hlt : k < len
    · have hlt' : (k : Int) < len := by omega
      by_cases h60 : k < 60
      · have h60' : (k : Int) < 60 := by omega
        have hkL : k < L.length := by rw [hl.out]; exact hlt
        have hor : ∃ b off, a = some ⟨b, off, none⟩ ∧ b < w.heap.size ∧ ∀ i, i < L.length → ∀ j, j < 6 → w.cell? ⟨b, off + i * 6 + j, none⟩ = (opC (L.getD i opr0))[j]? := by
          rcases hr.out with h | h
          · rw [h] at hkL; simp at hkL
          · exact h
        obtain ⟨b, off, rfl, hbl, hc⟩ := hor
        have hcell : ∀ j, j < 6 → wq.cell? ⟨b, off + k * 6 + j, none⟩ = (opC (L.getD k opr0))[j]? := fun j hj => (HB.out.cell (p := ⟨b, off + k * 6 + j, none⟩) hbl).trans (hc k hkL j hj)
        have hX : L.getD k opr0 ∈ L := by
          have : L.getD k opr0 = L[k] := by simp [List.getD, hkL]
          rw [this]
          exact List.getElem_mem _
        have hfit := hf.out _ hX
        generalize L.getD k opr0 = x at *
        clear hX hc
        obtain ⟨kd, aV, nV, kV, aW, nW, kW, p, kk, s, lV, lW⟩ := x
        have c0 : wq.cell? ⟨b, off + k * 6, none⟩ = some (.int .i64 kd) := hcell 0 (by decide)
        have c1 : wq.cell? ⟨b, off + k * 6 + 1, none⟩ = some (.slice aV nV kV) := hcell 1 (by decide)
        have c2 : wq.cell? ⟨b, off + k * 6 + 2, none⟩ = some (.slice aW nW kW) := hcell 2 (by decide)
        have c3 : wq.cell? ⟨b, off + k * 6 + 3, none⟩ = some (.int .i64 p) := hcell 3 (by decide)
        have c4 : wq.cell? ⟨b, off + k * 6 + 4, none⟩ = some (.int .i64 kk) := hcell 4 (by decide)
        have c5 : wq.cell? ⟨b, off + k * 6 + 5, none⟩ = some (.string s) := hcell 5 (by decide)
        obtain ⟨Z, g⟩ := HG.out
        have Hg := hide_ g
        have HP := hide_ (plays_any w1.heap.size w1.heap.size (4 * k) Z kd aV nV kV aW nW kW p kk s lV lW wq Hg (by omega) hfit.lv hfit.mv hfit.cv (hfit.rv.keepB hfit.bv HB.out) hfit.zv (fun h y hy => Nat.lt_of_lt_of_le (hfit.bv h y hy) hsz) hfit.fv hfit.lw hfit.mw hfit.cw (hfit.rw.keepB hfit.bw HB.out) hfit.zw (fun h y hy => Nat.lt_of_lt_of_le (hfit.bw h y hy) hsz) hfit.kk ((HTb.out.mono hsz).below HB1.out))
        unfold opv at HP
        clear hcell hfit g HG
        go_wp2_with fail
        refine HP.out.mono ?_; rintro e w3 ⟨rfl, HT⟩
        have hbel := BkTo.below Hg.out HT.out
        have HB3 := hide_ (HB.out.trans (hbel.mono hsz))
        have HB13 := hide_ (HB1.out.trans hbel)
        obtain ⟨Z', k1, _, _⟩ := HT.out
        have HG3 : Hid (∃ Z, Bk w1.heap.size w3 w1.heap.size (4 * (k + 1)) Z) := ⟨Z', by rw [show 4 * (k + 1) = 4 * k + 4 by omega]; exact k1⟩
        obtain ⟨vL, vM, pL, pM, N1, N2, F, G, ss, Fp, Gp, sp, h1, h2, h3, h4, _, _⟩ := k1
        have HH := hide_ (holds_any w1.heap.size w1.heap.size vL vM pL pM N1 N2 F G Fp Gp ss sp w3 h1 h2 (by omega) (by omega))
        clear hbel h1 h2 HT HP Hg HB HB1 c0 c1 c2 c3 c4 c5
        go_wp2_with (go_at_call 31; refine HH.out.mono ?_; rintro e w' ⟨rfl, rfl⟩)
        go_roundw
        case rel => exact ⟨k + 1, by go_num, by omega, by omega, HG3, HB3, HB13⟩
        case measure => simp [intOf]; omega
      · have h60' : ¬ (k : Int) < 60 := by omega
        go_wp2
        go_ret
        exact ⟨rfl, HB.out⟩
    · have hlt' : ¬ (k : Int) < len := by omega
      go_wp2
      go_ret
      exact ⟨rfl, HB.out⟩
end Go.Proofs.YtlbgdgobhiokpaaDoor

/-
  What the reading of an argument says of memory, over any program. For a new seat: copy as <Name>Read.lean; put the Name for 'Seat', also in the import.
-/
namespace Go.Proofs.YtlbgdgobhiokpaaDoor
open Go.ChangeShapes Go.WideShapes Go.ChangeAt Go.RowKit
set_option linter.unusedVariables false

variable {H : Type} {enc : TypeId × Value → H} {P : Program} {w : World} {base : Nat} {held : Bool}

/-- A slice of integers that was read, its spare room too. -/
theorem row_read {t e : TypeId} {k : IntKind} (ht : P.underlying t = some (.slice e)) (he : P.underlying e = some (.int k)) (hc : P.cellsOf e = 1) {fuel : Nat} {v : Value} {y : DataW H × List MemPlace}
    (h : DataW.trod enc P w base (fun _ => true) held fuel t [v] = some y) :
    ∃ a n cap l, v = .slice a n cap ∧ n ≤ cap ∧ cap ≤ maxLen ∧ l.length = n ∧ Row k w a l ∧ (a = none → cap = 0) ∧ ∀ x ∈ l, (Lit.int k x).wf = true := by
  rcases open_ints ht he hc h with ⟨hcs, _⟩ | ⟨x, l, c, zs, hcs, _, hl, hm, hz, _, hcell, hwz⟩
  · simp at hcs
    subst hcs
    exact ⟨none, 0, 0, [], rfl, Nat.le_refl _, Nat.zero_le _, rfl, .inl ⟨rfl, rfl⟩, fun _ => rfl, fun x hx => by cases hx⟩
  · simp at hcs
    subst hcs
    have hz' : zs.length = c := by simpa using hz
    refine ⟨some x, l, c, zs.take l, rfl, hl, hm, by simp; omega, .inr ⟨x, rfl, fun i hi => ?_⟩, (fun h => by cases h), fun x hx => hwz x (List.mem_of_mem_take hx)⟩
    have h1 : i < l := by simp at hi; omega
    rw [hcell i (by omega)]
    simp [List.getD, h1]
/-- The same, with what it weighs. -/
theorem row_weigh {t e : TypeId} {k : IntKind} (ht : P.underlying t = some (.slice e)) (he : P.underlying e = some (.int k)) (hc : P.cellsOf e = 1) {fuel : Nat} {v : Value} {y : DataW H × List MemPlace}
    (h : DataW.trod enc P w base (fun _ => true) held fuel t [v] = some y) :
    ∃ a n cap l, v = .slice a n cap ∧ n ≤ cap ∧ cap ≤ maxLen ∧ l.length = n ∧ Row k w a l ∧ (a = none → cap = 0) ∧ (∀ x ∈ l, (Lit.int k x).wf = true) ∧ (cap = 0 ∨ cap * P.bytesOf e ∈ y.1.weights P t) := by
  rcases open_ints ht he hc h with ⟨hcs, _⟩ | ⟨x, l, c, zs, hcs, _, hl, hm, hz, hy, hcell, hwz⟩
  · simp at hcs
    subst hcs
    exact ⟨none, 0, 0, [], rfl, Nat.le_refl _, Nat.zero_le _, rfl, .inl ⟨rfl, rfl⟩, fun _ => rfl, (fun x hx => by cases hx), .inl rfl⟩
  · simp at hcs
    subst hcs
    have hz' : zs.length = c := by simpa using hz
    refine ⟨some x, l, c, zs.take l, rfl, hl, hm, by simp; omega, .inr ⟨x, rfl, fun i hi => ?_⟩, (fun h => by cases h), (fun x hx => hwz x (List.mem_of_mem_take hx)), .inr ?_⟩
    · have h1 : i < l := by simp at hi; omega
      rw [hcell i (by omega)]
      simp [List.getD, h1]
    · subst hy
      simp only [DataW.weights, ht, lits, List.length_map, List.length_take, List.length_drop]
      rw [hz', show min l c + (c - l) = c from by omega]
      exact List.mem_cons_self
/-- A struct's cells, field by field: field number i of a struct whose fields are of one cell each. -/
theorem field_read {t : TypeId} {fs : Array Field} (ht : P.underlying t = some (.struct fs)) {fuel : Nat} {cs : List Value} {y : DataW H × List MemPlace} (h : DataW.trod enc P w base (fun _ => true) held fuel t cs = some y) :
    cs.length = P.cellsOf t ∧ ∃ m, ∀ (i : Nat) (f : Field) (c : Value), fs[i]? = some f → P.cellsOf f.type = 1 → cs[f.offset]? = some c → ∃ z, DataW.trod enc P w base (fun _ => true) held m f.type [c] = some z := by
  obtain ⟨xs, m, _, _, hl, hlen, hf⟩ := DataW.trod_struct ht h
  refine ⟨hl, m, fun i f c hfi hc1 hco => ?_⟩
  have hi : i < xs.length := by
    rw [hlen]
    exact (Array.getElem?_eq_some_iff.1 hfi).1
  have h1 := hf i f hfi
  rw [hc1, List.getElem?_eq_getElem hi] at h1
  obtain ⟨hol, hoc⟩ := List.getElem?_eq_some_iff.1 hco
  have e : (cs.drop f.offset).take 1 = [c] := by
    rw [List.drop_eq_getElem_cons hol, hoc]
    rfl
  rw [e] at h1
  exact ⟨_, h1⟩
/-- A slice of structs of n cells each: each element's cells, and that they were read. -/
theorem structs_read {t e : TypeId} (ht : P.underlying t = some (.slice e)) (hpos : 0 < P.cellsOf e) {fuel : Nat} {a0 : Option Addr} {len cap : Nat} {y : DataW H × List MemPlace} (h : DataW.trod enc P w base (fun _ => true) held fuel t [.slice a0 len cap] = some y) :
    len = 0 ∨ ∃ b off n, a0 = some ⟨b, off, none⟩ ∧ b < w.heap.size ∧ len ≤ cap ∧ cap ≤ maxLen ∧ ∀ i, i < len → ∃ cs z, cs.length = P.cellsOf e ∧ (∀ j, j < P.cellsOf e → w.cell? ⟨b, off + i * P.cellsOf e + j, none⟩ = cs[j]?) ∧ DataW.trod enc P w base (fun _ => true) held n e cs = some z := by
  rcases Go.Deep.open_slice ht h with ⟨hcs, _⟩ | ⟨x, l, c, m, n, D, Pl, hcs, _, hl, hm, hmm, _, hel⟩
  · left
    simp at hcs
    exact hcs.2.1
  · simp at hcs
    obtain ⟨rfl, rfl, rfl⟩ := hcs
    by_cases h0 : len = 0
    · exact .inl h0
    right
    have hmc : m = cap := by simpa using hmm
    obtain ⟨b, off, spot⟩ := x
    obtain ⟨cs0, hc0, _⟩ := hel 0 (by omega)
    have q0 := (World.cells?_some hc0).2.2 0 hpos
    have hlen0 := (World.cells?_some hc0).2.1
    have hz : ((⟨b, off, spot⟩ : Addr).add (0 * P.cellsOf e)).add 0 = ⟨b, off, spot⟩ := by simp [Addr.add]
    rw [hz] at q0
    have q1 : w.cell? ⟨b, off, spot⟩ = some (cs0[0]'(by omega)) := by rw [q0]; exact List.getElem?_eq_getElem _
    have hspot : spot = none := by simpa using World.cell?_spot q1
    subst hspot
    refine ⟨b, off, n, rfl, World.block_lt_of_cell? w _ q1, hl, hm, fun i hi => ?_⟩
    obtain ⟨cs, hcs, ht'⟩ := hel i (by omega)
    refine ⟨cs, _, (World.cells?_some hcs).2.1, fun j hj => ?_, ht'⟩
    have hcell := (World.cells?_some hcs).2.2 j hj
    rw [add_none, add_none] at hcell
    exact hcell
end Go.Proofs.YtlbgdgobhiokpaaDoor

/- What the reading of a slice of nodes says of memory. -/
namespace Go.Proofs.YtlbgdgobhiokpaaDoor
open Go.ChangeShapes Go.WideShapes Go.ChangeAt Go.RowKit
set_option linter.unusedVariables false

variable {H : Type} {enc : TypeId × Value → H} {w : World} {base : Nat} {held : Bool}
theorem len3 {cs : List Value} (h : cs.length = 3) : ∃ c0 c1 c2, cs = [c0, c1, c2] := by
  match cs, h with
  | [c0, c1, c2], _ => exact ⟨c0, c1, c2, rfl⟩
theorem cells37' : Tryd.prog.cellsOf 37 = 3 := by kernel_rfl
theorem node_open {fuel : Nat} {cs : List Value} {y : DataW H × List MemPlace} (h : DataW.trod enc Tryd.prog w base (fun _ => true) held fuel 37 cs = some y) :
    ∃ x : Nd, cs = [.int .i64 x.1, .int .u64 x.2.1, .int .i64 x.2.2] ∧ Fits x := by
  obtain ⟨hl, m, hf⟩ := field_read Tryd.underlying37 h
  rw [cells37'] at hl
  obtain ⟨c0, c1, c2, rfl⟩ := len3 hl
  obtain ⟨y0, t0⟩ := hf 0 _ c0 rfl (by kernel_rfl) rfl
  obtain ⟨y1, t1⟩ := hf 1 _ c1 rfl (by kernel_rfl) rfl
  obtain ⟨y2, t2⟩ := hf 2 _ c2 rfl (by kernel_rfl) rfl
  obtain ⟨k, k0, _, wk⟩ := DataW.trod_int Tryd.underlying3 t0
  obtain ⟨n, k1, _, wn⟩ := DataW.trod_int Tryd.underlying35 t1
  obtain ⟨c, k2, _, wc⟩ := DataW.trod_int Tryd.underlying3 t2
  simp at k0 k1 k2
  subst k0 k1 k2
  have b0 := bounds_i64 wk
  have b1 := bounds_u64 wn
  have b2 := bounds_i64 wc
  exact ⟨(k, n, c), rfl, b0, b1, b2⟩
theorem nodes_open {fuel : Nat} {a0 : Option Addr} {len cap : Nat} {y : DataW H × List MemPlace} (h : DataW.trod enc Tryd.prog w base (fun _ => true) held fuel 22 [.slice a0 len cap] = some y) :
    ∃ raw : List Nd, raw.length = len ∧ len ≤ maxLen ∧ NRaw w a0 raw ∧ ∀ x ∈ raw, Fits x := by
  rcases structs_read Tryd.underlying22 (by rw [cells37']; omega) h with h0 | ⟨b, off, n, rfl, hb, hlc, hcm, hel⟩
  · subst h0
    exact ⟨[], rfl, Nat.zero_le _, .inl rfl, fun x hx => by cases hx⟩
  · rw [cells37'] at hel
    have key : ∀ m, m ≤ len → ∃ raw : List Nd, raw.length = m ∧ (∀ i, i < m → w.cell? ⟨b, off + i * 3, none⟩ = some (.int .i64 (raw.getD i nil0).1) ∧ w.cell? ⟨b, off + i * 3 + 1, none⟩ = some (.int .u64 (raw.getD i nil0).2.1) ∧ w.cell? ⟨b, off + i * 3 + 2, none⟩ = some (.int .i64 (raw.getD i nil0).2.2)) ∧ ∀ x ∈ raw, Fits x := by
      intro m
      induction m with
      | zero => exact fun _ => ⟨[], rfl, fun i hi => by omega, fun x hx => by cases hx⟩
      | succ m ih =>
        intro hm
        obtain ⟨raw, h1, h2, h3⟩ := ih (by omega)
        obtain ⟨cs, z, _, hcell, ht⟩ := hel m (by omega)
        obtain ⟨x, rfl, hx⟩ := node_open ht
        refine ⟨raw ++ [x], by simp [h1], fun i hi => ?_, fun y hy => ?_⟩
        · by_cases hi2 : i < m
          · have e1 : (raw ++ [x]).getD i nil0 = raw.getD i nil0 := by simp [List.getD, List.getElem?_append_left (show i < raw.length by omega)]
            rw [e1]
            exact h2 i hi2
          · obtain rfl : i = m := by omega
            have e1 : (raw ++ [x]).getD i nil0 = x := by subst h1; simp [List.getD]
            rw [e1]
            exact ⟨hcell 0 (by omega), hcell 1 (by omega), hcell 2 (by omega)⟩
        · rcases List.mem_append.1 hy with hy | hy
          · exact h3 y hy
          · simp at hy; subst hy; exact hx
    obtain ⟨raw, h1, h2, h3⟩ := key len (Nat.le_refl _)
    exact ⟨raw, h1, Nat.le_trans hlc hcm, .inr (.inr ⟨b, off, rfl, hb, fun i hi => h2 i (by omega)⟩), h3⟩
end Go.Proofs.YtlbgdgobhiokpaaDoor

/- What the reading of a script of calls says of memory. -/
namespace Go.Proofs.YtlbgdgobhiokpaaDoor
open Go.ChangeShapes Go.WideShapes Go.ChangeAt Go.RowKit
set_option linter.unusedVariables false

variable {H : Type} {enc : TypeId × Value → H} {w : World} {base : Nat} {held : Bool}
theorem nodes_val {fuel : Nat} {c : Value} {y : DataW H × List MemPlace} (h : DataW.trod enc Tryd.prog w base (fun _ => true) held fuel 22 [c] = some y) :
    ∃ a n cap raw, c = .slice a n cap ∧ raw.length = n ∧ n ≤ maxLen ∧ n ≤ cap ∧ NRow w a raw ∧ (a = none → cap = 0) ∧ (raw ≠ [] → ∀ x, a = some x → x.block < w.heap.size) ∧ ∀ x ∈ raw, Fits x := by
  have hform : ∃ a n cap, c = .slice a n cap ∧ n ≤ cap ∧ (a = none → cap = 0) := by
    rcases Go.Deep.open_slice Tryd.underlying22 h with ⟨hcs, _⟩ | ⟨x, l, c', m, n, D, Pl, hcs, _, hl, _⟩
    · simp at hcs
      exact ⟨none, 0, 0, hcs, Nat.le_refl _, fun _ => rfl⟩
    · simp at hcs
      exact ⟨some x, l, c', hcs, hl, fun h => by cases h⟩
  obtain ⟨a, n, cap, rfl, hc, hz⟩ := hform
  obtain ⟨raw, h1, h2, h3, h4⟩ := nodes_open h
  have hrow : NRow w a raw := by
    rcases h3 with h3 | h3
    · exact .inl h3
    · exact h3
  refine ⟨a, n, cap, raw, rfl, h1, h2, hc, hrow, hz, fun hne x hx => ?_, h4⟩
  rcases hrow with h | ⟨b, off, rfl, hb, _⟩
  · exact absurd h hne
  · cases hx; exact hb
theorem len6o {cs : List Value} (h : cs.length = 6) : ∃ c0 c1 c2 c3 c4 c5, cs = [c0, c1, c2, c3, c4, c5] := by
  match cs, h with
  | [c0, c1, c2, c3, c4, c5], _ => exact ⟨c0, c1, c2, c3, c4, c5, rfl⟩
theorem cells81' : Tryd.prog.cellsOf 81 = 6 := by kernel_rfl
theorem natN_fits {l : List Nd} (h : ∀ x ∈ l, Fits x) : NatN l := fun x hx => (h x hx).2.1
theorem op_open {fuel : Nat} {cs : List Value} {y : DataW H × List MemPlace} (h : DataW.trod enc Tryd.prog w base (fun _ => true) held fuel 81 cs = some y) : ∃ x : Opr, cs = opC x ∧ FitsO w x := by
  obtain ⟨hl, m, hf⟩ := field_read Tryd.underlying81 h
  rw [cells81'] at hl
  obtain ⟨c0, c1, c2, c3, c4, c5, rfl⟩ := len6o hl
  obtain ⟨y0, t0⟩ := hf 0 _ c0 rfl (by kernel_rfl) rfl
  obtain ⟨y1, t1⟩ := hf 1 _ c1 rfl (by kernel_rfl) rfl
  obtain ⟨y2, t2⟩ := hf 2 _ c2 rfl (by kernel_rfl) rfl
  obtain ⟨y3, t3⟩ := hf 3 _ c3 rfl (by kernel_rfl) rfl
  obtain ⟨y4, t4⟩ := hf 4 _ c4 rfl (by kernel_rfl) rfl
  obtain ⟨y5, t5⟩ := hf 5 _ c5 rfl (by kernel_rfl) rfl
  obtain ⟨kd, k0, _, w0⟩ := DataW.trod_int Tryd.underlying3 t0
  obtain ⟨aV, nV, kV, lV, e1, v1, v2, v3, v4, v5, v6, v7⟩ := nodes_val t1
  obtain ⟨aW, nW, kW, lW, e2, u1, u2, u3, u4, u5, u6, u7⟩ := nodes_val t2
  obtain ⟨p, k3, _, w3⟩ := DataW.trod_int Tryd.underlying3 t3
  obtain ⟨kk, k4, _, w4⟩ := DataW.trod_int Tryd.underlying3 t4
  obtain ⟨s, k5, _, _⟩ := DataW.trod_string Tryd.underlying9 t5
  simp at k0 k3 k4 k5
  subst k0 e1 e2 k3 k4 k5
  exact ⟨⟨kd, aV, nV, kV, aW, nW, kW, p, kk, s, lV, lW⟩, rfl, ⟨v1, v2, v3, v4, v5, v6, natN_fits v7, u1, u2, u3, u4, u5, u6, bounds_i64 w4⟩⟩
theorem ops_open {fuel : Nat} {a0 : Option Addr} {len cap : Nat} {y : DataW H × List MemPlace} (h : DataW.trod enc Tryd.prog w base (fun _ => true) held fuel 78 [.slice a0 len cap] = some y) :
    ∃ raw : List Opr, raw.length = len ∧ len ≤ maxLen ∧ ORaw w a0 raw ∧ ∀ x ∈ raw, FitsO w x := by
  rcases structs_read Tryd.underlying78 (by rw [cells81']; omega) h with h0 | ⟨b, off, n, rfl, hb, hlc, hcm, hel⟩
  · subst h0
    exact ⟨[], rfl, Nat.zero_le _, .inl rfl, fun x hx => by cases hx⟩
  · rw [cells81'] at hel
    have key : ∀ m, m ≤ len → ∃ raw : List Opr, raw.length = m ∧ (∀ i, i < m → ∀ j, j < 6 → w.cell? ⟨b, off + i * 6 + j, none⟩ = (opC (raw.getD i opr0))[j]?) ∧ ∀ x ∈ raw, FitsO w x := by
      intro m
      induction m with
      | zero => exact fun _ => ⟨[], rfl, fun i hi => by omega, fun x hx => by cases hx⟩
      | succ m ih =>
        intro hm
        obtain ⟨raw, h1, h2, h3⟩ := ih (by omega)
        obtain ⟨cs, z, _, hcell, ht⟩ := hel m (by omega)
        obtain ⟨x, rfl, hx⟩ := op_open ht
        refine ⟨raw ++ [x], by simp [h1], fun i hi j hj => ?_, fun y hy => ?_⟩
        · by_cases hi2 : i < m
          · have e1 : (raw ++ [x]).getD i opr0 = raw.getD i opr0 := by simp [List.getD, List.getElem?_append_left (show i < raw.length by omega)]
            rw [e1]
            exact h2 i hi2 j hj
          · obtain rfl : i = m := by omega
            have e1 : (raw ++ [x]).getD i opr0 = x := by subst h1; simp [List.getD]
            rw [e1]
            exact hcell j hj
        · rcases List.mem_append.1 hy with hy | hy
          · exact h3 y hy
          · simp at hy; subst hy; exact hx
    obtain ⟨raw, h1, h2, h3⟩ := key len (Nat.le_refl _)
    exact ⟨raw, h1, Nat.le_trans hlc hcm, .inr ⟨b, off, rfl, hb, fun i hi => h2 i (by omega)⟩, h3⟩
end Go.Proofs.YtlbgdgobhiokpaaDoor
