/- typing.pushKids at all kinds; checkType; a list cut short. -/
import Derived.Test.YtlfjcihhcphjkaaDoorOi
import Derived.Test.YtlfjcihhcphjkaaDoorOd
namespace Go.Proofs.YtlfjcihhcphjkaaDoor
open Go.RowKit
set_option linter.unusedVariables false

theorem push_any (v : Value) (L : List Int) (B : Nat) (k n el : Int) (ps : List Pt) (va : Option Addr) (vc : Nat) (x : Nv) (i : Int) (w : World) (hok : Hid (tyOk ⟨k, n, el, ps⟩ i = true)) (hfit : Hid (misP ⟨k, n, el, ps⟩ x = 0)) (hx : 0 ≤ x.kids ∧ x.kids ≤ 1048576) (hL : L.length ≤ 10000000) (hB : B ≤ w.heap.size) (ho : Hid (IOwn w B v L)) (hr : Hid (PRow w va ps)) (hlow : Hid (ps = [] ∨ ∀ y, va = some y → y.block < B)) :
    Calls Tryd.prog 32 #[v, .agg #[.int .i64 k, .int .i64 n, .int .i64 el, .slice va ps.length vc], .agg #[.int .i64 x.k, .int .u64 x.n, .int .i64 x.kids]] w fun e w' => ∃ v', e = .returned v' ∧ Hid (PsTo w B v (L ++ (kidsT ⟨k, n, el, ps⟩ x).reverse) w' v') := by
  have hps := tyOk_len hok.out
  simp only at hps
  by_cases h7 : k = 7
  · subst h7
    have hs : (armI ps x.n).isSome = true := by
      have h := hfit.out
      simp only [misP] at h
      split at h
      · cases h
      · simp at h
        exact Option.isSome_iff_ne_none.2 h
    obtain ⟨m, hm⟩ := Option.isSome_iff_exists.1 hs
    obtain ⟨p, hp, -⟩ := armI_some hm
    have h := pushU_any v L B n el ps va vc x.k x.n x.kids m p w hm hp (by omega) (hide_ (tyOk_tags hok.out)) hL hB ho hr (hlow.out.resolve_left (fun e => by rw [e] at hp; cases hp))
    have e : (kidsT ⟨7, n, el, ps⟩ x).reverse = [p.ty] := by simp [kidsT, hm, List.getD, hp]
    rw [e]
    exact h
  by_cases h8 : k = 8
  · subst h8
    have e : (kidsT ⟨8, n, el, ps⟩ x).reverse = (ps.map (·.ty)).reverse := by simp [kidsT]
    rw [e]
    exact pushS_any v L B n el ps va vc x.k x.n x.kids w (tyOk_some hok.out (.inr rfl)) hps hL hB ho hr (hlow.out.resolve_left (fun e => by have h := tyOk_some hok.out (.inr rfl); rw [e] at h; cases h))
  · have e : (kidsT ⟨k, n, el, ps⟩ x).reverse = List.replicate x.kids.toNat el := by simp [kidsT, h7, h8]
    rw [e]
    have h := pushE_any v L B k n el ps va vc x.k x.n x.kids.toNat w (by simpa using h7) (by simpa using h8) (by omega) hL hB ho
    rw [show ((x.kids.toNat : Nat) : Int) = x.kids by omega] at h
    exact h
/-- What checkType answers. -/
def ckT (T : List Ty) (R : List Rt) (t : Int) : Int × Int := if (chk T R).1 ≠ 0 then chk T R else if t < 0 ∨ (T.length : Int) ≤ t then (3, 0) else (0, 0)
set_option maxRecDepth 100000 in
set_option maxHeartbeats 4000000 in
theorem checkType_any (aT : Option Addr) (cT : Nat) (T : List Ty) (aR : Option Addr) (cR : Nat) (R : List Rt) (t : Int) (w : World) (hn : T.length ≤ 10000000000000) (hm : R.length ≤ 10000000000000) (hl : Hid (LensT T)) (hT : Hid (TRow w aT T)) (hRr : Hid (RRow w aR R)) :
    Calls Tryd.prog 29 #[.agg #[.slice aT T.length cT, .slice aR R.length cR], .int .i64 t] w fun e w' => e = .returned (.agg #[.int .i64 (ckT T R t).1, .int .i64 (ckT T R t).2]) ∧ Below w.heap.size w w' := by
  obtain ⟨w1, hw1⟩ : ∃ wx, wx = w.alloc (.cells #[.slice aT T.length cT, .slice aR R.length cR] 25) := ⟨_, rfl⟩
  have b1 : Below w.heap.size w w1 := by rw [hw1]; exact below1 _ _
  have k1 : Blk w1 w.heap.size 25 [.slice aT T.length cT, .slice aR R.length cR] := by rw [hw1]; exact Blk.newA w _ _
  have s1 : w1.heap.size = w.heap.size + 1 := by rw [hw1]; simp
  obtain ⟨w2, hw2⟩ : ∃ wx, wx = w1.alloc (.cells #[.int .i64 0, .int .i64 0] 42) := ⟨_, rfl⟩
  have b2 : Below w1.heap.size w1 w2 := by rw [hw2]; exact below1 _ _
  have k2 : Blk w2 w1.heap.size 42 [.int .i64 0, .int .i64 0] := by rw [hw2]; exact Blk.newA w1 _ _
  rw [s1] at k2
  have hB := below_to b1 b2
  have K1 := hide_ (k1.later b2)
  have K2 := hide_ k2
  have HB := hide_ hB
  have HCk := hide_ (check_any aT cT T aR cR R w2 hn hm hl (hide_ (hT.out.later hB)) (hide_ (hRr.out.later hB)))
  have i0 := K1.out.cell 0; have i1 := K1.out.cell 1
  simp at i0 i1
  have HZ : Hid (w.heap.size + 2 ≤ w2.heap.size) := hide_ (by rw [hw2]; simp; omega)
  clear b1 b2 k1 k2 s1 hB
  go_enter Tryd.func29, Tryd.ntmps29
  go_upto_region 1 with fail
  rw [← hw1, ← hw2]
  clear hw1 hw2
  go_wp2_with fail
  refine HCk.out.mono ?_
  rintro e w3 ⟨rfl, hB3⟩
  have HB3 := hide_ (below_to HB.out hB3)
  have k3 := Blk.newA w3 #[.int .i64 (chk T R).1, .int .i64 (chk T R).2] 42
  have hB4 := below1 w3 (.cells #[.int .i64 (chk T R).1, .int .i64 (chk T R).2] 42)
  have k14 := (K1.out.later hB3).later hB4
  have k24 := (K2.out.later hB3).later hB4
  have hB4f := below_to HB3.out hB4
  have hz4 : w.heap.size + 2 ≤ w3.heap.size := Nat.le_trans HZ.out hB3.size
  obtain ⟨w4, hw4⟩ : ∃ w4, w4 = w3.alloc (.cells #[.int .i64 (chk T R).1, .int .i64 (chk T R).2] 42) := ⟨_, rfl⟩
  rw [← hw4] at k3 k14 k24 hB4f
  have K3 := hide_ k3
  have K14 := hide_ k14
  have K24 := hide_ k24
  have HB4 := hide_ hB4f
  have HV : Hid (ckT T R t = if (chk T R).1 ≠ 0 then chk T R else if t < 0 ∨ (T.length : Int) ≤ t then (3, 0) else (0, 0)) := hide_ rfl
  have HVe : Hid ((chk T R) = ((chk T R).1, (chk T R).2)) := hide_ rfl
  generalize (chk T R).1 = c1 at *
  generalize (chk T R).2 = c2 at *
  have p0 := K3.out.cell 0; have p1 := K3.out.cell 1
  have q0 := K24.out.cell 0; have q1 := K24.out.cell 1
  have r0 := K14.out.cell 0
  have f2 := fun i => K24.out.frozen i
  simp at p0 p1 q0 q1 r0
  clear i0 i1 hB3 hB4 hB4f k3 k14 k24 HCk hT hRr hl
  go_upto_region 2 with fail
  rw [← hw4]
  clear hw4
  by_cases hc : c1 = 0
  · subst hc
    rw [if_neg (by simp)] at HV
    by_cases h1 : t < 0
    · rw [if_pos (.inl h1)] at HV
      have HK := hide_ (wr2 K24.out (.int .i64 3) (.int .i64 0))
      have HBf := hide_ (below_wr2 HB4.out (w.heap.size + 1) (by omega) (.int .i64 3) (.int .i64 0))
      go_wp2
      exact retF rfl rfl HK.out ⟨by rw [HV.out], HBf.out⟩
    · by_cases h2 : (T.length : Int) ≤ t
      · rw [if_pos (.inr h2)] at HV
        have HK := hide_ (wr2 K24.out (.int .i64 3) (.int .i64 0))
        have HBf := hide_ (below_wr2 HB4.out (w.heap.size + 1) (by omega) (.int .i64 3) (.int .i64 0))
        have h1' : decide (t < 0) = false := decide_eq_false h1
        go_wp2
        exact retF rfl rfl HK.out ⟨by rw [HV.out], HBf.out⟩
      · rw [if_neg (by omega)] at HV
        have HK := hide_ (wr2 K24.out (.int .i64 0) (.int .i64 0))
        have HBf := hide_ (below_wr2 HB4.out (w.heap.size + 1) (by omega) (.int .i64 0) (.int .i64 0))
        have h1' : decide (t < 0) = false := decide_eq_false h1
        have h2' : decide ((T.length : Int) ≤ t) = false := decide_eq_false h2
        go_wp2
        exact retF rfl rfl HK.out ⟨by rw [HV.out], HBf.out⟩
  · rw [if_pos hc, HVe.out] at HV
    have hc' : (c1 == 0) = false := by simpa using hc
    have HK := hide_ (wr2 K24.out (.int .i64 c1) (.int .i64 c2))
    have HBf := hide_ (below_wr2 HB4.out (w.heap.size + 1) (by omega) (.int .i64 c1) (.int .i64 c2))
    go_wp2
    exact retF rfl rfl HK.out ⟨by rw [HV.out], HBf.out⟩
theorem IOwn.cut {w : World} {B g n cap m : Nat} {l : List Int} (h : IOwn w B (.slice (some ⟨g, 0, none⟩) n cap) l) (hm : m ≤ l.length) : IOwn w B (.slice (some ⟨g, 0, none⟩) m cap) (l.take m) := by
  rcases h.2 with ⟨e, _⟩ | ⟨g', cap', cur, e, hb, hg, hn, hx, hs, ht⟩
  · cases e
  · injection e with e1 e2 e3
    injection e1 with e1
    injection e1 with e1 _ _
    subst e1 e2 e3
    refine ⟨by simp [cellsL], .inr ⟨g, cap, cur, by simp [Nat.min_eq_left hm], hb, hg, by simp; omega, hx, hs, ?_⟩⟩
    have e2 : cellsL .i64 (l.take m) = (cellsL .i64 l).take m := by simp [cellsL, List.map_take]
    rw [e2, ← ht]
    simp [List.take_take]
end Go.Proofs.YtlfjcihhcphjkaaDoor
