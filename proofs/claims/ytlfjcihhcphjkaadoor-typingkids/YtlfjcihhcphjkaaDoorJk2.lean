import Derived.Test.YtlfjcihhcphjkaaDoorJk1
import Derived.Test.YtlfjcihhcphjkaaDoorZcp
import Derived.Test.YtlfjcihhcphjkaaDoorOp
import Derived.Test.YtlfjcihhcphjkaaDoorOn
import Derived.Test.YtlfjcihhcphjkaaDoorOk
import Derived.Test.YtlfjcihhcphjkaaDoorOt
import Derived.Laws.Closers25b
import Derived.Test.YtlfjcihhcphjkaaDoorBase
import Derived.ProofKit
import Derived.OpenShut
import Derived.ShutString
import Derived.ChangeOld
import Derived.Deep.Slices
import Derived.SizedLaws
import Derived.Test.YtlfjcihhcphjkaaDoorZc
import Derived.Test.YtlfjcihhcphjkaaDoorCards
import Derived.Test.YtlfjcihhcphjkaaDoorTie
import Derived.WalkKit
import Derived.ChangeMaps5
import Derived.Below
import Derived.Deep.DeepHandedRow
import Derived.Lib.LaidTab
import Derived.Stop.LaidErr
/- The document's Some: mortiseref10.Some, mortiseref11.Some. -/
namespace Go.Proofs.YtlfjcihhcphjkaaDoor
open Go.RowKit
set_option linter.unusedVariables false

/-- What Some answers. -/
def SoTo (A : List Nv × Int) (w : World) (e : Ending) (w' : World) : Prop := ∃ v, e = .returned (.tuple #[v, .int .i64 A.2]) ∧ Hid (NOwn w' w.heap.size v A.1) ∧ Hid (Below w.heap.size w w')
set_option maxRecDepth 100000 in
set_option maxHeartbeats 8000000 in
theorem someR_any (aT : Option Addr) (cT : Nat) (T : List Ty) (aR : Option Addr) (cR : Nat) (R : List Rt) (t : Int) (aP : Option Addr) (nP cP : Nat) (p : List Int) (w : World) (hn : T.length ≤ 1000000000) (hm : R.length ≤ 10000000000000) (hL : Hid (LensT T)) (hT : Hid (TRow w aT T)) (hRr : Hid (RRow w aR R)) (hpn : Hid (p.length = nP)) (hPr : Hid (Row .i64 w aP p)) :
    Calls Tryd.prog 33 #[.agg #[.slice aT T.length cT, .slice aR R.length cR], .int .i64 t, .slice aP nP cP] w fun e w' => SoTo (someT T R t p) w e w' := by
  obtain ⟨w0, hw0⟩ : ∃ wx, wx = w.alloc (.cells #[.slice aT T.length cT, .slice aR R.length cR] 25) := ⟨_, rfl⟩
  have hB : Below w.heap.size w w0 := by rw [hw0]; exact below1 _ _
  have k1 : Blk w0 w.heap.size 25 [.slice aT T.length cT, .slice aR R.length cR] := by rw [hw0]; exact Blk.newA w _ _
  have HB0 := hide_ hB
  have K1 := hide_ k1
  have hz0 : w.heap.size < w0.heap.size := k1.lt
  have i0 := k1.cell 0; have i1 := k1.cell 1
  simp at i0 i1
  have HCk := hide_ (checkR_any aT cT T aR cR R w0 (by omega) hm hL (hide_ (hT.out.later hB)) (hide_ (hRr.out.later hB)))
  obtain ⟨E, hE⟩ : ∃ E, (chk T R).1 = E := ⟨_, rfl⟩
  obtain ⟨A, hA⟩ : ∃ A, (chk T R).2 = A := ⟨_, rfl⟩
  rw [hE, hA] at HCk
  have HE : Hid (chk T R = (E, A)) := hide_ (by rw [← hE, ← hA])
  clear hB k1 hE hA
  go_enter Tryd.func33, Tryd.ntmps33
  go_upto_region 1 with fail
  rw [← hw0]
  clear hw0
  go_wp2_with fail
  refine HCk.out.mono ?_; rintro e w1 ⟨rfl, hB1⟩
  obtain ⟨w2, hw2⟩ : ∃ wx, wx = w1.alloc (.cells #[.int .i64 E, .int .i64 A] 42) := ⟨_, rfl⟩
  have kf : Blk w2 w1.heap.size 42 [.int .i64 E, .int .i64 A] := by rw [hw2]; exact Blk.newA w1 _ _
  have hb2 : Below w1.heap.size w1 w2 := by rw [hw2]; exact below1 _ _
  have HB2 := hide_ (below_to hB1 hb2)
  have K12 := hide_ (K1.out.later HB2.out)
  have HBw := hide_ (below_to HB0.out HB2.out)
  have j0 := kf.cell 0; have j1 := kf.cell 1
  simp at j0 j1
  clear i0 i1
  have i0 := K12.out.cell 0; have i1 := K12.out.cell 1
  simp at i0 i1
  clear hB1 hb2 kf HCk
  go_upto_region 2 with fail
  rw [← hw2]
  clear hw2
  by_cases hE0 : E = 0
  · subst hE0
    have HOk := hide_ (okS_of (T := T) (R := R) (by rw [HE.out]))
    by_cases ht : t < 0 ∨ (T.length : Int) ≤ t
    · have HV : Hid (someT T R t p = ([], 3)) := hide_ (by unfold someT; rw [HE.out, if_neg (by simp), if_pos ht])
      by_cases ht0 : t < 0
      · have hd : decide (t < 0) = true := decide_eq_true ht0
        go_wp2
        go_ret2
        exact ⟨_, by rw [HV.out]; rfl, hide_ (by rw [HV.out]; exact NOwn.nil _ _), HBw⟩
      · have hd : decide (t < 0) = false := decide_eq_false ht0
        have hd2 : (T.length : Int) ≤ t := by omega
        go_wp2
        go_ret2
        exact ⟨_, by rw [HV.out]; rfl, hide_ (by rw [HV.out]; exact NOwn.nil _ _), HBw⟩
    · have hd : decide (t < 0) = false := decide_eq_false (by omega)
      have hd1 : ¬ t < 0 := by omega
      have hd2 : ¬ (T.length : Int) ≤ t := by omega
      have hTl : 0 < T.length := by omega
      obtain ⟨bT, oT, eT, -, -⟩ := hT.out.open hTl
      subst eT
      have HV : Hid (someT T R t p = match mkT T p 1048578 [t] [] with | some v => (v, 0) | none => ([], 5)) := hide_ (by unfold someT; rw [HE.out, if_neg (by simp), if_neg ht]; generalize mkT T p 1048578 [t] [] = z; cases z <;> rfl)
      obtain ⟨w3, hw3⟩ : ∃ wx, wx = w2.alloc (.cells #[.slice (some ⟨bT, oT, none⟩) T.length cT, .slice aR R.length cR, .slice aP nP cP, .slice none 0 0, .bool false] 91) := ⟨_, rfl⟩
      have km : Blk w3 w2.heap.size 91 [.slice (some ⟨bT, oT, none⟩) T.length cT, .slice aR R.length cR, .slice aP nP cP, .slice none 0 0, .bool false] := by rw [hw3]; exact Blk.newA w2 _ _
      have hb3 : Below w2.heap.size w2 w3 := by rw [hw3]; exact below1 _ _
      have HBw3 := hide_ (below_to HBw.out hb3)
      have HMs := hide_ (msome_any w bT oT cT T aR cR R aP nP cP p w2.heap.size t HBw.out.size HOk hT hpn hPr 1048577 t [] [] (.slice none 0 0) w3 (by simp) (hide_ (RkI.start (by omega) (by omega))) HBw3 (hide_ km) (hide_ (NOwn.nil _ _)))
      clear km hb3
      go_upto_region 7 with fail
      rw [← hw3]
      clear hw3 i0 i1 j0 j1
      go_wp2_with fail
      refine HMs.out.mono ?_; rintro e w4 ⟨rfl, HM⟩
      obtain ⟨v', V', many, hk, ho, hl, hu, hor⟩ := HM.out
      have HBf : Hid (Below w.heap.size w w4) := hide_ (below_to3 HBw3.out hu (fun k hk => by
        rcases hk with h | h
        · subst h; exact HBw.out.size
        · cases h))
      have HO := hide_ ho
      obtain ⟨av, cv, hv, -⟩ := ho.row
      subst hv
      have m3 := hk.cell 3; have m4 := hk.cell 4
      simp at m3 m4
      clear hk ho hl hu HM HMs
      cases many with
      | true =>
        have HA : Hid (someT T R t p = ([], 5)) := hide_ (by
          rcases hor with ⟨-, h⟩ | ⟨h, -⟩
          · rw [HV.out, h]
          · cases h)
        clear hor
        go_wp2
        go_ret2
        exact ⟨_, by rw [HA.out]; rfl, hide_ (by rw [HA.out]; exact NOwn.nil _ _), HBf⟩
      | false =>
        have HA : Hid (someT T R t p = (V', 0)) := hide_ (by
          rcases hor with ⟨h, -⟩ | ⟨-, h, -⟩
          · cases h
          · rw [HV.out, h.done])
        clear hor
        go_wp2
        go_ret2
        exact ⟨_, by rw [HA.out]; rfl, hide_ (by rw [HA.out]; exact HO.out), HBf⟩
  · have HV : Hid (someT T R t p = ([], E)) := hide_ (by unfold someT; rw [HE.out, if_pos hE0])
    have hE1 : (E != 0) = true := by simpa using hE0
    go_wp2_with fail
    go_quiet (fail)
    go_wp2
    go_ret2
    exact ⟨_, by rw [HV.out]; rfl, hide_ (by rw [HV.out]; exact NOwn.nil _ _), hide_ (below_drewN HBw.out _)⟩
set_option maxRecDepth 100000 in
set_option maxHeartbeats 8000000 in
theorem some11_any (aT : Option Addr) (cT : Nat) (T : List Ty) (aR : Option Addr) (cR : Nat) (R : List Rt) (t : Int) (aP : Option Addr) (nP cP : Nat) (p : List Int) (w : World) (hn : T.length ≤ 1000000000) (hm : R.length ≤ 10000000000000) (hL : Hid (LensT T)) (hT : Hid (TRow w aT T)) (hRr : Hid (RRow w aR R)) (hpn : Hid (p.length = nP)) (hPr : Hid (Row .i64 w aP p)) :
    Calls Tryd.prog 12 #[.agg #[.slice aT T.length cT, .slice aR R.length cR], .int .i64 t, .slice aP nP cP] w fun e w' => SoTo (someT T R t p) w e w' := by
  obtain ⟨w0, hw0⟩ : ∃ wx, wx = w.alloc (.cells #[.slice aT T.length cT, .slice aR R.length cR] 25) := ⟨_, rfl⟩
  have hB : Below w.heap.size w w0 := by rw [hw0]; exact below1 _ _
  have k1 : Blk w0 w.heap.size 25 [.slice aT T.length cT, .slice aR R.length cR] := by rw [hw0]; exact Blk.newA w _ _
  have HB0 := hide_ hB
  have i0 := k1.cell 0; have i1 := k1.cell 1
  simp at i0 i1
  have HSo := hide_ (someR_any aT cT T aR cR R t aP nP cP p w0 hn hm hL (hide_ (hT.out.later hB)) (hide_ (hRr.out.later hB)) hpn (hide_ (hPr.out.later hB)))
  clear hB k1
  go_enter Tryd.func12, Tryd.ntmps12
  go_upto_region 1 with fail
  rw [← hw0]
  clear hw0
  go_wp2_with fail
  refine HSo.out.mono ?_; rintro e w1 ⟨v, rfl, HN, HB1⟩
  obtain ⟨av, cv, hv, -⟩ := HN.out.row
  subst hv
  go_wp2
  go_ret2
  exact ⟨_, rfl, hide_ (own_base HN.out HB0.out.size), hide_ (below_to HB0.out HB1.out)⟩
end Go.Proofs.YtlfjcihhcphjkaaDoor
/- TypingKids, plain: the beginning; a change at the root; mustSome. -/
namespace Go.Proofs.YtlfjcihhcphjkaaDoor
open Go.RowKit
set_option linter.unusedVariables false

/-- The first kid. -/
theorem KdI.start {T : List Ty} {R : List Rt} (hS : OkS T R) {t : Int} (ht0 : 0 ≤ t) (ht1 : t < T.length) {x0 : Nv} {L0 L : List Nv} {tys : List Int} {E A : Int} (hk : L.map (·.kids) = L0.map (·.kids)) (hc0 : (chkV 1 0 (x0 :: L0)).1 = 0) (hc : (chkV 1 0 (x0 :: L)).1 = 0) (hg : wkT T [t] (x0 :: L0) 0 = (tys, 0, 0)) (hE : E = (wkT T [t] (x0 :: L) 0).2.1) (hA : A = (wkT T [t] (x0 :: L) 0).2.2) :
    KdI T (x0 :: L0) (x0 :: L) tys E A 1 (kidsT (T.getD t.toNat ty0) x0) true ∧ ((kidsT (T.getD t.toNat ty0) x0).length : Int) = x0.kids := by
  have hok := hS.ty t.toNat (by omega)
  rw [show ((t.toNat : Nat) : Int) = t by omega] at hok
  obtain ⟨-, hrx, hc02⟩ := chkV_step hc0
  obtain ⟨-, -, hc2⟩ := chkV_step hc
  rw [wkT] at hg hE hA
  by_cases h1 : misP (T.getD t.toNat ty0) x0 ≠ 0
  · rw [if_pos h1] at hg
    injection hg with _ hg
    injection hg with hg _
    exact absurd hg h1
  · rw [if_neg h1] at hg hE hA
    simp only [List.append_nil] at hg hE hA
    have h10 : misP (T.getD t.toNat ty0) x0 = 0 := by simpa using h1
    have hlen := kidsT_len hok h10 hrx
    have hkin := kidsT_in hok h10 hrx
    refine ⟨⟨fun s hs => by have := hkin s hs; omega, ?_, ?_, ?_, ?_, ?_, fun _ => ?_, fun h => (by cases h)⟩, hlen⟩
    · rw [hlen, List.drop_succ_cons, List.drop_zero]
      have e : (1 : Int) + (x0.kids - 1) = x0.kids := by omega
      rw [e] at hc2
      exact hc2
    · rw [hlen, List.drop_succ_cons, List.drop_zero]
      have e : (1 : Int) + (x0.kids - 1) = x0.kids := by omega
      rw [e] at hc02
      exact hc02
    · simp only [List.map_cons, hk]
    · rw [List.drop_succ_cons, List.drop_zero]
      by_cases h2 : (wkT T (kidsT (T.getD t.toNat ty0) x0) L0 (0 + 1)).2.1 ≠ 0
      · rw [if_pos h2] at hg
        rw [hg] at h2
        exact absurd rfl h2
      · simpa using h2
    · rw [List.drop_succ_cons, List.drop_zero]
      by_cases h2 : (wkT T (kidsT (T.getD t.toNat ty0) x0) L0 (0 + 1)).2.1 ≠ 0
      · rw [if_pos h2] at hg
        rw [hg] at h2
        exact absurd rfl h2
      · rw [if_neg h2] at hg
        injection hg with hg _
        rw [← hg]
        rfl
    · rw [List.drop_succ_cons, List.drop_zero]
      by_cases h2 : (wkT T (kidsT (T.getD t.toNat ty0) x0) L (0 + 1)).2.1 ≠ 0
      · rw [if_pos h2] at hE hA
        exact ⟨hE, hA⟩
      · rw [if_neg h2] at hE hA
        have h20 : (wkT T (kidsT (T.getD t.toNat ty0) x0) L (0 + 1)).2.1 = 0 := by simpa using h2
        exact ⟨by rw [hE]; exact h20.symm, by rw [hA]; exact (wkT_zero T _ _ _ h20).symm⟩
theorem misP_pos (t : Ty) (x : Nv) : 0 ≤ misP t x := by
  unfold misP
  repeat' split
  all_goals omega
theorem wkT_pos (T : List Ty) : ∀ (v : List Nv) (st : List Int) (i : Nat), 0 ≤ (wkT T st v i).2.1 ∧ 0 ≤ (wkT T st v i).2.2
  | [], [], i => ⟨Int.le_refl 0, Int.le_refl 0⟩
  | [], s :: st, i => ⟨Int.le_refl 0, Int.le_refl 0⟩
  | x :: v, [], i => ⟨Int.le_refl 0, Int.le_refl 0⟩
  | x :: v, s :: st, i => by
    rw [wkT]
    by_cases h1 : misP (T.getD s.toNat ty0) x ≠ 0
    · rw [if_pos h1]
      exact ⟨misP_pos _ _, by show (0 : Int) ≤ (i : Int); omega⟩
    · rw [if_neg h1]
      simp only
      have ih := wkT_pos T v (kidsT (T.getD s.toNat ty0) x ++ st) (i + 1)
      by_cases h2 : (wkT T (kidsT (T.getD s.toNat ty0) x ++ st) v (i + 1)).2.1 ≠ 0
      · rw [if_pos h2]; exact ih
      · rw [if_neg h2]; exact ⟨Int.le_refl 0, Int.le_refl 0⟩
/-- The root is another node of as many kids: no fault, a fault there, or the root is a union's. -/
theorem root_put {T : List Ty} {t : Int} {x0 y : Nv} {L : List Nv} {tys : List Int} (hy : y.kids = x0.kids) (hg : wkT T [t] (x0 :: L) 0 = (tys, 0, 0)) :
    (wkT T [t] (y :: L) 0).2.1 = 0 ∨ (wkT T [t] (y :: L) 0).2.2 = 0 ∨ (0 < (wkT T [t] (y :: L) 0).2.1 ∧ 0 < (wkT T [t] (y :: L) 0).2.2 ∧ y.k = 6) := by
  by_cases hz : (wkT T [t] (y :: L) 0).2.1 = 0
  · exact .inl hz
  by_cases ha : (wkT T [t] (y :: L) 0).2.2 = 0
  · exact .inr (.inl ha)
  refine .inr (.inr ?_)
  have hp := wkT_pos T (y :: L) [t] 0
  refine ⟨by omega, by omega, ?_⟩
  rw [wkT] at hg hz ha
  by_cases h1 : misP (T.getD t.toNat ty0) y ≠ 0
  · rw [if_pos h1] at ha
    exact absurd rfl ha
  · rw [if_neg h1] at hz
    have h10 : misP (T.getD t.toNat ty0) y = 0 := by simpa using h1
    by_cases h7 : (T.getD t.toNat ty0).k = 7
    · have hkd := h10
      unfold misP at hkd
      by_cases hk : y.k ≠ nkind (T.getD t.toNat ty0).k
      · rw [if_pos hk] at hkd; cases hkd
      · have hk2 : y.k = nkind (T.getD t.toNat ty0).k := by simpa using hk
        rw [hk2, h7]
        rfl
    · exfalso
      have hkk : kidsT (T.getD t.toNat ty0) y = kidsT (T.getD t.toNat ty0) x0 := by
        unfold kidsT
        rw [if_neg h7, if_neg h7, hy]
      by_cases h3 : misP (T.getD t.toNat ty0) x0 ≠ 0
      · rw [if_pos h3] at hg
        injection hg with _ hg
        injection hg with hg _
        exact h3 hg
      · rw [if_neg h3] at hg
        simp only at hg hz
        rw [hkk] at hz
        by_cases h2 : (wkT T (kidsT (T.getD t.toNat ty0) x0 ++ []) L (0 + 1)).2.1 ≠ 0
        · rw [if_pos h2] at hg
          rw [hg] at h2
          exact h2 rfl
        · rw [if_neg h2] at hz
          exact hz rfl
set_option maxRecDepth 100000 in
set_option maxHeartbeats 8000000 in
theorem must_any (aT : Option Addr) (cT : Nat) (T : List Ty) (aR : Option Addr) (cR : Nat) (R : List Rt) (t : Int) (aP : Option Addr) (nP cP : Nat) (p : List Int) (w : World) (hn : T.length ≤ 1000000000) (hm : R.length ≤ 10000000000000) (hL : Hid (LensT T)) (hT : Hid (TRow w aT T)) (hRr : Hid (RRow w aR R)) (hpn : Hid (p.length = nP)) (hPr : Hid (Row .i64 w aP p)) :
    Calls Tryd.prog 25 #[.agg #[.slice aT T.length cT, .slice aR R.length cR], .int .i64 t, .slice aP nP cP] w fun e w' => ∃ v, e = .returned v ∧ Hid (NOwn w' w.heap.size v (someT T R t p).1) ∧ Hid (Below w.heap.size w w') := by
  obtain ⟨w0, hw0⟩ : ∃ wx, wx = w.alloc (.cells #[.slice aT T.length cT, .slice aR R.length cR] 25) := ⟨_, rfl⟩
  have hB : Below w.heap.size w w0 := by rw [hw0]; exact below1 _ _
  have k1 : Blk w0 w.heap.size 25 [.slice aT T.length cT, .slice aR R.length cR] := by rw [hw0]; exact Blk.newA w _ _
  have HB0 := hide_ hB
  have i0 := k1.cell 0; have i1 := k1.cell 1
  simp at i0 i1
  have HSo := hide_ (some11_any aT cT T aR cR R t aP nP cP p w0 hn hm hL (hide_ (hT.out.later hB)) (hide_ (hRr.out.later hB)) hpn (hide_ (hPr.out.later hB)))
  clear hB k1
  go_enter Tryd.func25, Tryd.ntmps25
  go_upto_region 1 with fail
  rw [← hw0]
  clear hw0
  go_wp2_with fail
  refine HSo.out.mono ?_; rintro e w1 ⟨v, rfl, HN, HB1⟩
  obtain ⟨av, cv, hv, -⟩ := HN.out.row
  subst hv
  go_wp2
  go_ret
  exact ⟨_, rfl, hide_ (own_base HN.out HB0.out.size), hide_ (below_to HB0.out HB1.out)⟩
end Go.Proofs.YtlfjcihhcphjkaaDoor
/- Lists lent with a mark behind them: what lies in memory. -/
namespace Go.Proofs.YtlfjcihhcphjkaaDoor
open Go.RowKit
set_option linter.unusedVariables false

set_option maxRecDepth 100000 in
/-- append(v, x...), x a row of structs of any kind, v a row of the call's own. -/
theorem run_appG {α : Type} {c : Nat} {f : α → List Value} {P : Program} {t e : TypeId} {z : Value} {bytes : Nat} (hf : ∀ x, (f x).length = c) (hone : ∀ x, ∀ u ∈ f x, u.oneCell' = true) (ht : P.underlying t = some (.slice e)) (hinfo : (P.info? e).map (fun i => (i.zero, i.size, i.bytes)) = some (some z, c, bytes)) (hzs : z.cells.size = c) (hc : 0 < c)
    (w : World) {B : Nat} {v : Value} {l : List α} (hown : w.ownsRow B e c v l.length (cellsG f l)) (b off cap : Nat) (r : List α) (hr : ∀ (i : Nat) (x : α), r[i]? = some x → ∀ j, j < c → w.cell? ⟨b, off + i * c + j, none⟩ = (f x)[j]?) (h63 : l.length + r.length ≤ maxLen) (hl : (l.length + r.length) * bytes ≤ 140737488355328) (hB : B ≤ w.heap.size) :
    ∃ v' w', (Builtin.append_ #[t, t] t #[v, .slice (some ⟨b, off, none⟩) r.length cap]).run P w = .ok v' w' ∧ w'.ownsRow B e c v' (l.length + r.length) (cellsG f (l ++ r)) ∧ Upd (fun k => v.ownBlock = some k) w w' ∧ (v'.ownBlock = v.ownBlock ∨ v'.ownBlock = some w.heap.size) := by
  have hall : ∀ u ∈ cellsG f r, u.oneCell' = true := fun u hu => by
    simp only [cellsG, List.mem_flatMap] at hu
    obtain ⟨x, _, hx⟩ := hu
    exact hone x u hx
  obtain ⟨i0, hi, hz0, hz1, hz2⟩ := info_parts hinfo
  have hcell : ∀ j u, (cellsG f r)[j]? = some u → w.cell? ((⟨b, off, none⟩ : Addr).add j) = some u := fun j u hj => by
    have hlt := (List.getElem?_eq_some_iff.1 hj).1
    rw [cellsG_len hf] at hlt
    have hi : j / c < r.length := Nat.div_lt_of_lt_mul (by rw [Nat.mul_comm]; exact hlt)
    have hx : r[j / c]? = some (r[j / c]'hi) := List.getElem?_eq_getElem hi
    have h1 := hr (j / c) _ hx (j % c) (Nat.mod_lt _ hc)
    have h2 := cellsG_at hf r (j / c) (j % c) _ hx (Nat.mod_lt _ hc)
    have e : j / c * c + j % c = j := by rw [Nat.mul_comm]; exact Nat.div_add_mod j c
    rw [e] at h2
    rw [add_none, ← hj, h2, ← h1]
    congr 2
    omega
  obtain ⟨v', w', hrun, h2, h3, h4, h5⟩ := run_append_own_at (P := P) w B t t e i0 z c bytes ht hi hz0 hz1 hz2 hzs hc v l.length (cellsG f l) hown ⟨b, off, none⟩ r.length cap (cellsG f r) (cellsG_len hf r) hcell hall h63 hl hB
  refine ⟨v', w', hrun, by rw [cellsG_app]; exact h2, (Upd.refl _ w).grown h3 (fun k hk => .inl hk), h5⟩
/-- append(v, x), x lies in a block of its own. -/
theorem run_app1 {α : Type} {c : Nat} {f : α → List Value} {P : Program} {t e : TypeId} {z : Value} {bytes : Nat} (hf : ∀ x, (f x).length = c) (hone : ∀ x, ∀ u ∈ f x, u.oneCell' = true) (ht : P.underlying t = some (.slice e)) (hinfo : (P.info? e).map (fun i => (i.zero, i.size, i.bytes)) = some (some z, c, bytes)) (hzs : z.cells.size = c) (hc : 0 < c)
    (w : World) {B : Nat} {v : Value} {l : List α} (hown : w.ownsRow B e c v l.length (cellsG f l)) (b : Nat) (x : α) (hb : Blk w b e (f x)) (h63 : l.length + 1 ≤ maxLen) (hl : (l.length + 1) * bytes ≤ 140737488355328) (hB : B ≤ w.heap.size) :
    ∃ g cap w', (Builtin.append_ #[t, t] t #[v, .slice (some ⟨b, 0, none⟩) 1 1]).run P w = .ok (.slice (some ⟨g, 0, none⟩) (l.length + 1) cap) w' ∧ w'.ownsRow B e c (.slice (some ⟨g, 0, none⟩) (l.length + 1) cap) (l ++ [x]).length (cellsG f (l ++ [x])) ∧ Upd (fun k => v.ownBlock = some k) w w' ∧ B ≤ g ∧ l.length + 1 ≤ cap ∧ (v.ownBlock = some g ∨ w.heap.size ≤ g) := by
  obtain ⟨v', w', h1, h2, h3, h4⟩ := run_appG (P := P) hf hone ht hinfo hzs hc w hown b 0 1 [x] (fun i y hy j hj => by
    have hi := (List.getElem?_eq_some_iff.1 hy).1
    obtain rfl : i = 0 := by simp at hi; omega
    simp at hy
    subst hy
    rw [hb.cell]
    congr 1
    omega) h63 hl hB
  have hlen : l.length + [x].length = (l ++ [x]).length := by simp
  rw [hlen] at h2
  obtain ⟨g, cap, ys, e1, hg, hn, -, -, -, -⟩ := ownS_blk h2 (by simp)
  rw [List.length_append, List.length_singleton] at e1 hn
  subst e1
  refine ⟨g, cap, w', h1, h2, h3, hg, hn, ?_⟩
  rcases h4 with h4 | h4
  · exact .inl (by rw [← h4]; rfl)
  · have : g = w.heap.size := own_is h4
    exact .inr (by omega)
theorem rtc_one1 (r : Rt) : ∀ u ∈ rtc r, u.oneCell' = true := fun u hu => by
  simp [rtc] at hu
  rcases hu with rfl | rfl <;> rfl
/-- A type's parts, of the call's own, with a mark behind them. -/
def MkIn (w : World) (B : Nat) (q : Pt) (ps : List Pt) (u : Value) : Prop := ∃ g c, u = .slice (some ⟨g, 0, none⟩) ps.length c ∧ ps.length + 1 ≤ c ∧ PRow w (some ⟨g, 0, none⟩) (ps ++ [q]) ∧ B ≤ g ∧ ∃ ys, Blk w g 67 ys
theorem MkIn.upd {w w' : World} {B : Nat} {q : Pt} {ps : List Pt} {u : Value} {S : Nat → Prop} (h : MkIn w B q ps u) (hu : Upd S w w') (hn : ∀ k ys, S k → Blk w k 67 ys → False) : MkIn w' B q ps u := by
  obtain ⟨g, c, e, h1, h2, h3, ys, h4⟩ := h
  have hg : ¬ S g := fun hS => hn g ys hS h4
  exact ⟨g, c, e, h1, h2.upd hu (fun x hx => by cases hx; exact hg), h3, ys, h4.upd hu hg⟩
theorem MkIn.later {w w' : World} {B : Nat} {q : Pt} {ps : List Pt} {u : Value} (h : MkIn w B q ps u) (hB : Below w.heap.size w w') : MkIn w' B q ps u := h.upd (Upd.of_below (S := fun _ => False) hB) (fun _ _ h => h.elim)
theorem MkIn.ptIn {w : World} {B : Nat} {q : Pt} {ps : List Pt} {u : Value} (h : MkIn w B q ps u) (B' : Nat) : PtIn w B' ps u := by
  obtain ⟨g, c, rfl, h1, h2, h3, ys, h4⟩ := h
  refine ⟨_, c, rfl, by omega, (fun h => by cases h), ?_, .inr (fun x hx => by cases hx; exact .inr ⟨ys, h4⟩)⟩
  have := h2.take ps.length
  rwa [List.take_left] at this
theorem POwn.mkIn {w : World} {B : Nat} {q : Pt} {ps : List Pt} {g c : Nat} (h : POwn w B (.slice (some ⟨g, 0, none⟩) (ps.length + 1) c) (ps ++ [q])) : MkIn w B q ps (.slice (some ⟨g, 0, none⟩) ps.length c) := by
  obtain ⟨a, c', e, h1, -, h3⟩ := own_grow ptc_len h
  injection e with e1 e2 e3
  subst e1 e3
  obtain ⟨ys, hy⟩ := ownS_type h (k := g) rfl
  exact ⟨g, c, rfl, by simpa using h1, h3, (World.ownsRow.lt h g rfl).1, ys, hy⟩
/-- A schema that is lent: its types with a mark behind, their parts with marks, its roots with a mark. -/
structure LtS (w : World) (B : Nat) (gT cT : Nat) (Q : List (Ty × Value)) (gR cR : Nat) (R : List Rt) (q : Pt) (tq : Ty) (rq : Rt) : Prop where
  ty : TOwn w B (.slice (some ⟨gT, 0, none⟩) (Q.length + 1) cT) (Q ++ [(tq, .slice none 0 0)])
  mks : ∀ p ∈ Q, MkIn w B q p.1.ps p.2
  rt : ROwn w B (.slice (some ⟨gR, 0, none⟩) (R.length + 1) cR) (R ++ [rq])
theorem LtS.later {w w' : World} {B gT cT gR cR : Nat} {Q : List (Ty × Value)} {R : List Rt} {q : Pt} {tq : Ty} {rq : Rt} (h : LtS w B gT cT Q gR cR R q tq rq) (hB : Below w.heap.size w w') : LtS w' B gT cT Q gR cR R q tq rq :=
  ⟨h.ty.later hB, fun p hp => (h.mks p hp).later hB, h.rt.later hB⟩
/-- A store into a block of another type. -/
theorem LtS.other {w : World} {B gT cT gR cR : Nat} {Q : List (Ty × Value)} {R : List Rt} {q : Pt} {tq : Ty} {rq : Rt} (h : LtS w B gT cT Q gR cR R q tq rq) {g : Nat} {t : TypeId} {ys : List Value} (hb : Blk w g t ys) (hg : B ≤ g) (h1 : t ≠ 64) (h2 : t ≠ 67) (h3 : t ≠ 69) (i : Nat) (u : Value) : LtS (w.setCell ⟨g, i, none⟩ u) B gT cT Q gR cR R q tq rq :=
  ⟨h.ty.other hb hg h1 h2 i u, fun p hp => (h.mks p hp).upd ((Upd.refl (fun k => k = g) w).set ⟨g, i, none⟩ u (.inl rfl)) (fun k zs e hz => by subst e; exact h2 (blk_type hb hz)), h.rt.other hb h3 i u⟩
theorem LtS.row {w : World} {B gT cT gR cR : Nat} {Q : List (Ty × Value)} {R : List Rt} {q : Pt} {tq : Ty} {rq : Rt} (h : LtS w B gT cT Q gR cR R q tq rq) : TRow w (some ⟨gT, 0, none⟩) (Q.map (·.1)) ∧ RRow w (some ⟨gR, 0, none⟩) R := by
  have h1 := town_row h.ty rfl
  have h2 := rown_row h.rt
  have h3 := h1.take Q.length
  have h4 := h2.take R.length
  have e3 : (Q.map (·.1)).length = Q.length := by simp
  rw [List.map_append, ← e3, List.take_left] at h3
  rw [List.take_left] at h4
  exact ⟨h3, h4⟩
theorem LtS.caps {w : World} {B gT cT gR cR : Nat} {Q : List (Ty × Value)} {R : List Rt} {q : Pt} {tq : Ty} {rq : Rt} (h : LtS w B gT cT Q gR cR R q tq rq) : Q.length + 1 ≤ cT ∧ R.length + 1 ≤ cR ∧ B ≤ gT ∧ B ≤ gR ∧ w.cell? ⟨gT, Q.length * 4, none⟩ = some (.int .i64 tq.k) ∧ w.cell? ⟨gR, R.length * 2 + 1, none⟩ = some (.int .i64 rq.ty) := by
  obtain ⟨_, _, e, h1, -, -⟩ := own_grow tyq_len h.ty.1
  injection e with _ e2 e3
  obtain ⟨a', _, e', h2, -, h3⟩ := own_grow rtc_len h.rt
  injection e' with e1 e2' e3'
  subst e1
  obtain ⟨b, off, e4, -, hc⟩ := h3.open (by simp)
  injection e4 with e4
  injection e4 with e5 e6 _
  have hk := (h.ty.at4 (i := Q.length) (p := (tq, .slice none 0 0)) (by simp)).1
  have hr := hc R.length rq (by simp) 1 (by decide)
  rw [← e5, ← e6] at hr
  simp only [Nat.zero_add] at hr
  refine ⟨by rw [e3]; simpa using h1, by rw [e3']; simpa using h2, (World.ownsRow.lt h.ty.1 gT rfl).1, (World.ownsRow.lt h.rt gR rfl).1, hk, hr⟩
end Go.Proofs.YtlfjcihhcphjkaaDoor
/- lent: a schema copied into lists with marks behind them. -/
namespace Go.Proofs.YtlfjcihhcphjkaaDoor
open Go.RowKit
set_option linter.unusedVariables false

def mqP : Pt := ⟨⟨#[]⟩, 23130, 0⟩
def mqT : Ty := ⟨23130, 0, 0, []⟩
def mqR : Rt := ⟨⟨#[]⟩, 23130⟩
def mqN : Nv := ⟨23130, 0, 0⟩
theorem nvc_one (x : Nv) : ∀ u ∈ nvc x, u.oneCell' = true := fun u hu => by
  simp [nvc] at hu
  rcases hu with rfl | rfl | rfl <;> rfl
structure CuL (w0 w wr : World) (a b v : Value) (Q : List (Ty × Value)) : Prop where
  arg : Blk wr w.heap.size 25 [a, b]
  res : Blk wr (w.heap.size + 1) 33 [.slice none 0 0, .slice none 0 0, .slice none 0 0, .slice none 0 0]
  out : Blk wr (w.heap.size + 2) 25 [v, .slice none 0 0]
  own : TOwn wr w0.heap.size v Q
  low : ∀ k, v.ownBlock = some k → w.heap.size ≤ k
  bel : Below w.heap.size w wr
theorem retLn {fn : Func} {p : Tmp} (h : fn.results = #[.cell p 33]) {R : Ending → World → Prop} {tmps : Array Value} {g : Nat} {w : World} {x0 x1 x2 x3 : Value} (hp : tmps.getD p undef = .pointer (some ⟨g, 0, none⟩)) (hK : Blk w g 33 [x0, x1, x2, x3]) (hR : R (.returned (.agg #[x0, x1, x2, x3])) w) :
    bodyPost Tryd.prog fn R Exit.ret ⟨tmps, []⟩ w :=
  bodyPost_ret (results_cell_row h _ _ _ _ #[x0, x1, x2, x3] _ _ hp (show w.heap[g]? = some (.cells #[x0, x1, x2, x3] 33 (0, 0)) from hK) Tryd.underlying33 rfl (by show _ = some 4; kernel_rfl)) rfl hR
theorem wr4 {w : World} {g : Nat} {t : TypeId} {x0 x1 x2 x3 : Value} (h : Blk w g t [x0, x1, x2, x3]) (y0 y1 y2 y3 : Value) :
    Blk ((((w.setCell ⟨g, 0, none⟩ y0).setCell ⟨g, 1, none⟩ y1).setCell ⟨g, 2, none⟩ y2).setCell ⟨g, 3, none⟩ y3) g t [y0, y1, y2, y3] := by
  have := (((h.set 0 y0).set 1 y1).set 2 y2).set 3 y3
  simpa using this
theorem LtS.updN {w w' : World} {B gT cT gR cR : Nat} {Q : List (Ty × Value)} {R : List Rt} {q : Pt} {tq : Ty} {rq : Rt} (h : LtS w B gT cT Q gR cR R q tq rq) {g : Nat} {t : TypeId} {ys : List Value} (hu : Upd (fun k => k = g) w w') (hb : Blk w g t ys) (hg : B ≤ g) (h1 : t ≠ 64) (h2 : t ≠ 67) (h3 : t ≠ 69) : LtS w' B gT cT Q gR cR R q tq rq :=
  ⟨h.ty.updN hu hb hg h1 h2, fun p hp => (h.mks p hp).upd hu (fun k zs e hz => by subst e; exact h2 (blk_type hb hz)), h.rt.updN hu hb h3⟩
/-- What lent answers. -/
def LentTo (w : World) (T : List Ty) (R : List Rt) (V : List Nv) (P : List Int) (e : Ending) (w' : World) : Prop := ∃ gT cT Q gR cR gV cV gP cP, e = .returned (.agg #[.slice (some ⟨gT, 0, none⟩) T.length cT, .slice (some ⟨gR, 0, none⟩) R.length cR, .slice (some ⟨gV, 0, none⟩) V.length cV, .slice (some ⟨gP, 0, none⟩) P.length cP]) ∧ Hid (LtS w' w.heap.size gT cT Q gR cR R mqP mqT mqR) ∧ Hid (Q.map (·.1) = T) ∧ Hid (NOwn w' w.heap.size (.slice (some ⟨gV, 0, none⟩) (V.length + 1) cV) (V ++ [mqN])) ∧ Hid (IOwn w' w.heap.size (.slice (some ⟨gP, 0, none⟩) (P.length + 1) cP) (P ++ [23130])) ∧ Hid (Below w.heap.size w w')
theorem ptO (w : World) (va : Option Addr) (vc : Nat) (ps : List Pt) (hP : PRow w va ps) (hvn : va = none → vc = 0) (hpl : ps.length ≤ 1000000) :
    ∃ v1 w1 g2 c2 w2, (Builtin.append_ #[62, 62] 62 #[.slice none 0 0, .slice va ps.length vc]).run Tryd.prog w = .ok v1 w1 ∧
      (Builtin.append_ #[62, 62] 62 #[v1, .slice (some ⟨w1.heap.size, 0, none⟩) 1 1]).run Tryd.prog (w1.alloc (.cells #[.string ⟨#[]⟩, .int .i64 23130, .int .i64 0] 67)) = .ok (.slice (some ⟨g2, 0, none⟩) (ps.length + 1) c2) w2 ∧
      MkIn w2 w.heap.size mqP ps (.slice (some ⟨g2, 0, none⟩) ps.length c2) ∧ Below w.heap.size w w1 ∧ Below w.heap.size w w2 ∧ ps.length + 1 ≤ c2 := by
  obtain ⟨v1, w1, h1, h2, h3⟩ := copyP w va vc ps hP hvn hpl
  have kb : Blk (w1.alloc (.cells #[.string ⟨#[]⟩, .int .i64 23130, .int .i64 0] 67)) w1.heap.size 67 (ptc mqP) := Blk.newA w1 _ _
  have ba := below1 w1 (.cells #[.string ⟨#[]⟩, .int .i64 23130, .int .i64 0] 67)
  obtain ⟨g2, c2, w2, k1, k2, k3, k4, k5, -⟩ := run_app1 (P := Tryd.prog) ptc_len ptc_one Tryd.underlying62 infoP rfl (by decide) _ (h2.later ba) w1.heap.size mqP kb (by unfold maxLen; omega) (by omega) (Nat.le_trans h3.size ba.size)
  have hb2 : Below w.heap.size w w2 := (below_to h3 ba).trans (k3.below _ (Nat.le_trans h3.size ba.size) (fun k hk => (World.ownsRow.lt h2 k hk).1))
  exact ⟨v1, w1, g2, c2, w2, h1, k1, POwn.mkIn (B := w.heap.size) (by rw [List.length_append, List.length_singleton] at k2; unfold POwn; rw [List.length_append, List.length_singleton]; exact k2), h3, hb2, k5⟩
/-- The other order: the mark is laid first. -/
theorem ptO2 (w : World) (va : Option Addr) (vc : Nat) (ps : List Pt) (hP : PRow w va ps) (hvn : va = none → vc = 0) (hpl : ps.length ≤ 1000000) :
    ∃ v1 w1 g2 c2 w2, (Builtin.append_ #[62, 62] 62 #[.slice none 0 0, .slice va ps.length vc]).run Tryd.prog (w.alloc (.cells #[.string ⟨#[]⟩, .int .i64 23130, .int .i64 0] 67)) = .ok v1 w1 ∧
      (Builtin.append_ #[62, 62] 62 #[v1, .slice (some ⟨w.heap.size, 0, none⟩) 1 1]).run Tryd.prog w1 = .ok (.slice (some ⟨g2, 0, none⟩) (ps.length + 1) c2) w2 ∧
      MkIn w2 w.heap.size mqP ps (.slice (some ⟨g2, 0, none⟩) ps.length c2) ∧ Below w.heap.size w w1 ∧ Below w.heap.size w w2 ∧ ps.length + 1 ≤ c2 := by
  have ba := below1 w (.cells #[.string ⟨#[]⟩, .int .i64 23130, .int .i64 0] 67)
  have kb : Blk (w.alloc (.cells #[.string ⟨#[]⟩, .int .i64 23130, .int .i64 0] 67)) w.heap.size 67 (ptc mqP) := Blk.newA w _ _
  obtain ⟨v1, w1, h1, h2, h3⟩ := copyP _ va vc ps (hP.later ba) hvn hpl
  have h2' : POwn w1 w.heap.size v1 ps := own_base h2 ba.size
  obtain ⟨g2, c2, w2, k1, k2, k3, k4, k5, -⟩ := run_app1 (P := Tryd.prog) ptc_len ptc_one Tryd.underlying62 infoP rfl (by decide) w1 h2' w.heap.size mqP (kb.later h3) (by unfold maxLen; omega) (by omega) (Nat.le_trans ba.size h3.size)
  have hb1 := below_to ba h3
  have hb2 : Below w.heap.size w w2 := hb1.trans (k3.below _ hb1.size (fun k hk => (World.ownsRow.lt h2' k hk).1))
  exact ⟨v1, w1, g2, c2, w2, h1, k1, POwn.mkIn (B := w.heap.size) (by rw [List.length_append, List.length_singleton] at k2; unfold POwn; rw [List.length_append, List.length_singleton]; exact k2), hb1, hb2, k5⟩
/-- Roots. -/
theorem rtO (w : World) (a : Option Addr) (c : Nat) (R : List Rt) (hR : RRow w a R) (hn : a = none → c = 0) (hl : R.length ≤ 1000000) :
    ∃ v1 w1 g2 c2 w2, (Builtin.append_ #[23, 23] 23 #[.slice none 0 0, .slice a R.length c]).run Tryd.prog w = .ok v1 w1 ∧
      (Builtin.append_ #[23, 23] 23 #[v1, .slice (some ⟨w1.heap.size, 0, none⟩) 1 1]).run Tryd.prog (w1.alloc (.cells #[.string ⟨#[]⟩, .int .i64 23130] 69)) = .ok (.slice (some ⟨g2, 0, none⟩) (R.length + 1) c2) w2 ∧
      ROwn w2 w.heap.size (.slice (some ⟨g2, 0, none⟩) (R.length + 1) c2) (R ++ [mqR]) ∧ Below w.heap.size w w1 ∧ Below w.heap.size w w2 ∧ R.length + 1 ≤ c2 := by
  obtain ⟨v1, w1, h1, h2, h3⟩ := run_copyG (P := Tryd.prog) rtc_len rtc_one1 Tryd.underlying23 infoR rfl (by decide) w a R.length c R rfl hR hn (by unfold maxLen; omega) (by omega)
  have h2r : ROwn w1 w.heap.size v1 R := h2
  have kb : Blk (w1.alloc (.cells #[.string ⟨#[]⟩, .int .i64 23130] 69)) w1.heap.size 69 (rtc mqR) := Blk.newA w1 _ _
  have ba := below1 w1 (.cells #[.string ⟨#[]⟩, .int .i64 23130] 69)
  obtain ⟨g2, c2, w2, k1, k2, k3, k4, k5, -⟩ := run_app1 (P := Tryd.prog) rtc_len rtc_one1 Tryd.underlying23 infoR rfl (by decide) _ (h2r.later ba) w1.heap.size mqR kb (by unfold maxLen; omega) (by omega) (Nat.le_trans h3.size ba.size)
  have hb2 : Below w.heap.size w w2 := (below_to h3 ba).trans (k3.below _ (Nat.le_trans h3.size ba.size) (fun k hk => (World.ownsRow.lt h2r k hk).1))
  exact ⟨v1, w1, g2, c2, w2, h1, k1, k2, h3, hb2, k5⟩
theorem rtO2 (w : World) (a : Option Addr) (c : Nat) (R : List Rt) (hR : RRow w a R) (hn : a = none → c = 0) (hl : R.length ≤ 1000000) :
    ∃ v1 w1 g2 c2 w2, (Builtin.append_ #[23, 23] 23 #[.slice none 0 0, .slice a R.length c]).run Tryd.prog (w.alloc (.cells #[.string ⟨#[]⟩, .int .i64 23130] 69)) = .ok v1 w1 ∧
      (Builtin.append_ #[23, 23] 23 #[v1, .slice (some ⟨w.heap.size, 0, none⟩) 1 1]).run Tryd.prog w1 = .ok (.slice (some ⟨g2, 0, none⟩) (R.length + 1) c2) w2 ∧
      ROwn w2 w.heap.size (.slice (some ⟨g2, 0, none⟩) (R.length + 1) c2) (R ++ [mqR]) ∧ Below w.heap.size w w1 ∧ Below w.heap.size w w2 ∧ R.length + 1 ≤ c2 := by
  have ba := below1 w (.cells #[.string ⟨#[]⟩, .int .i64 23130] 69)
  have kb : Blk (w.alloc (.cells #[.string ⟨#[]⟩, .int .i64 23130] 69)) w.heap.size 69 (rtc mqR) := Blk.newA w _ _
  obtain ⟨v1, w1, h1, h2, h3⟩ := run_copyG (P := Tryd.prog) rtc_len rtc_one1 Tryd.underlying23 infoR rfl (by decide) _ a R.length c R rfl (hR.later ba) hn (by unfold maxLen; omega) (by omega)
  have h2' : ROwn w1 w.heap.size v1 R := own_base h2 ba.size
  obtain ⟨g2, c2, w2, k1, k2, k3, k4, k5, -⟩ := run_app1 (P := Tryd.prog) rtc_len rtc_one1 Tryd.underlying23 infoR rfl (by decide) w1 h2' w.heap.size mqR (kb.later h3) (by unfold maxLen; omega) (by omega) (Nat.le_trans ba.size h3.size)
  have hb1 := below_to ba h3
  have hb2 : Below w.heap.size w w2 := hb1.trans (k3.below _ hb1.size (fun k hk => (World.ownsRow.lt h2' k hk).1))
  exact ⟨v1, w1, g2, c2, w2, h1, k1, k2, hb1, hb2, k5⟩
end Go.Proofs.YtlfjcihhcphjkaaDoor
/- TypingExact: what lies in memory. -/
namespace Go.Proofs.YtlfjcihhcphjkaaDoor
open Go.RowKit
set_option linter.unusedVariables false

theorem LtS.upd {w w' : World} {B gT cT gR cR : Nat} {Q : List (Ty × Value)} {R : List Rt} {q : Pt} {tq : Ty} {rq : Rt} {S : Nat → Prop} (h : LtS w B gT cT Q gR cR R q tq rq) (hu : Upd S w w') (hs : ∀ k, S k → k < B) : LtS w' B gT cT Q gR cR R q tq rq := by
  refine ⟨⟨ownS_upd h.ty.1 hu (fun k hk hS => ?_), fun p hp => ?_⟩, fun p hp => ?_, ownS_upd h.rt hu (fun k hk hS => ?_)⟩
  · have := (World.ownsRow.lt h.ty.1 k hk).1; have := hs k hS; omega
  · rcases List.mem_append.1 hp with hp | hp
    · refine MkIn.ptIn (q := q) (B := B) ?_ B
      obtain ⟨g, c, e, h1, h2, h3, ys, h4⟩ := h.mks p hp
      have hg : ¬ S g := fun hS => by have := hs g hS; omega
      exact ⟨g, c, e, h1, h2.upd hu (fun x hx => by cases hx; exact hg), h3, ys, h4.upd hu hg⟩
    · obtain ⟨va, vc, e, h1, h2, h3, h4⟩ := h.ty.2 p (List.mem_append.2 (.inr hp))
      have hp2 := hp
      simp at hp2
      subst hp2
      injection e with e1 e2 e3
      subst e1
      rcases h3 with h3 | ⟨_, _, hh, _⟩
      · exact ⟨none, vc, by rw [← e2, ← e3], h1, h2, .inl h3, .inl h3⟩
      · cases hh
  · obtain ⟨g, c, e, h1, h2, h3, ys, h4⟩ := h.mks p hp
    have hg : ¬ S g := fun hS => by have := hs g hS; omega
    exact ⟨g, c, e, h1, h2.upd hu (fun x hx => by cases hx; exact hg), h3, ys, h4.upd hu hg⟩
  · have := (World.ownsRow.lt h.rt k hk).1; have := hs k hS; omega
/-- What lies in memory at the head of a turn: the schema's box, the lent ones' box, what is lent. -/
structure TxM (w : World) (B0 g9 g11 : Nat) (a9 : Option Addr) (c9 : Nat) (Q9 : List (Ty × Value)) (T : List Ty) (ar9 : Option Addr) (cr9 : Nat) (R : List Rt) (Bv : Nat) (av : Option Addr) (cv : Nat) (V : List Nv) (BL gT cT : Nat) (Q : List (Ty × Value)) (gR cR gV cV gP cP : Nat) : Prop where
  sbox : Blk w g9 25 [.slice a9 T.length c9, .slice ar9 R.length cr9]
  lbox : Blk w g11 33 [.slice (some ⟨gT, 0, none⟩) T.length cT, .slice (some ⟨gR, 0, none⟩) R.length cR, .slice (some ⟨gV, 0, none⟩) V.length cV, .slice (some ⟨gP, 0, none⟩) 0 cP]
  tow : TOwn w B0 (.slice a9 T.length c9) Q9
  ro : ROwn w B0 (.slice ar9 R.length cr9) R
  vo : NOwn w Bv (.slice av V.length cv) V
  lt : LtS w BL gT cT Q gR cR R mqP mqT mqR
  no : NOwn w BL (.slice (some ⟨gV, 0, none⟩) (V.length + 1) cV) (V ++ [mqN])
  io : IOwn w BL (.slice (some ⟨gP, 0, none⟩) 1 cP) [23130]
  tab : Tab w
  lo : ∀ k, (Value.slice av V.length cv).ownBlock = some k → k < BL
theorem TxM.later {w w' : World} {B0 g9 g11 : Nat} {a9 : Option Addr} {c9 : Nat} {Q9 : List (Ty × Value)} {T : List Ty} {ar9 : Option Addr} {cr9 : Nat} {R : List Rt} {Bv : Nat} {av : Option Addr} {cv : Nat} {V : List Nv} {BL gT cT : Nat} {Q : List (Ty × Value)} {gR cR gV cV gP cP : Nat} (h : TxM w B0 g9 g11 a9 c9 Q9 T ar9 cr9 R Bv av cv V BL gT cT Q gR cR gV cV gP cP) (hB : Below w.heap.size w w') : TxM w' B0 g9 g11 a9 c9 Q9 T ar9 cr9 R Bv av cv V BL gT cT Q gR cR gV cV gP cP :=
  ⟨h.sbox.later hB, h.lbox.later hB, h.tow.later hB, h.ro.later hB, h.vo.later hB, h.lt.later hB, h.no.later hB, h.io.later hB, h.tab.later hB, h.lo⟩
theorem upd_ne {w w' : World} {B c n k : Nat} {e t : TypeId} {v : Value} {xs ys : List Value} (h : w.ownsRow B e c v n xs) (hu : Upd (fun q => q = k) w w') (hb : Blk w k t ys) (ht : t ≠ e) : w'.ownsRow B e c v n xs := ownS_upd h hu (fun q hq e2 => by
  subst e2
  obtain ⟨zs, hz⟩ := ownS_type h hq
  exact ht (blk_type hb hz))
theorem blk_ne_upd {w w' : World} {g k : Nat} {e t : TypeId} {xs ys : List Value} (h : Blk w g e xs) (hu : Upd (fun q => q = k) w w') (hb : Blk w k t ys) (ht : t ≠ e) : Blk w' g e xs := h.upd hu (fun e2 => by
  subst e2
  exact ht (blk_type hb h))
/-- One node's number becomes another one, in the list and in what is lent. -/
theorem TxM.put {w : World} {B0 g9 g11 : Nat} {a9 : Option Addr} {c9 : Nat} {Q9 : List (Ty × Value)} {T : List Ty} {ar9 : Option Addr} {cr9 : Nat} {R : List Rt} {Bv : Nat} {gv cv : Nat} {V : List Nv} {BL gT cT : Nat} {Q : List (Ty × Value)} {gR cR gV cV gP cP : Nat} (h : TxM w B0 g9 g11 a9 c9 Q9 T ar9 cr9 R Bv (some ⟨gv, 0, none⟩) cv V BL gT cT Q gR cR gV cV gP cP) (hB0 : 0 < B0) (hBv : B0 ≤ Bv) (hBL : B0 ≤ BL) {k : Nat} {x : Nv} (hk : V[k]? = some x) (n' : Int) :
    TxM ((((w.setCell ⟨gv, k * 3 + 1, none⟩ (.int .u64 n')).setCell ⟨gV, k * 3, none⟩ (.int .i64 x.k)).setCell ⟨gV, k * 3 + 1, none⟩ (.int .u64 n')).setCell ⟨gV, k * 3 + 2, none⟩ (.int .i64 x.kids)) B0 g9 g11 a9 c9 Q9 T ar9 cr9 R Bv (some ⟨gv, 0, none⟩) cv (V.set k ⟨x.k, n', x.kids⟩) BL gT cT Q gR cR gV cV gP cP ∧ Bv ≤ gv ∧ BL ≤ gV := by
  have hkl := (List.getElem?_eq_some_iff.1 hk).1
  have hgv := (h.vo.lt gv rfl).1
  have hgl := h.lo gv rfl
  have hgV := (h.no.lt gV rfl).1
  obtain ⟨ys1, hb1⟩ := ownS_type h.vo (k := gv) rfl
  have hu1 : Upd (fun q => q = gv) w (w.setCell ⟨gv, k * 3 + 1, none⟩ (.int .u64 n')) := (Upd.refl _ w).set _ _ (.inl rfl)
  have hv1 := h.vo.setN hk n'
  have hn1 := h.no.upd hu1 (fun q hq e => by have := own_is hq; omega)
  generalize hw1 : w.setCell ⟨gv, k * 3 + 1, none⟩ (.int .u64 n') = w1 at *
  obtain ⟨ys2, hb2⟩ := ownS_type hn1 (k := gV) rfl
  have hu2 : Upd (fun q => q = gV) w1 (((w1.setCell ⟨gV, k * 3, none⟩ (.int .i64 x.k)).setCell ⟨gV, k * 3 + 1, none⟩ (.int .u64 n')).setCell ⟨gV, k * 3 + 2, none⟩ (.int .i64 x.kids)) := (((Upd.refl (fun q => q = gV) w1).set _ _ (.inl rfl)).set _ _ (.inl rfl)).set _ _ (.inl rfl)
  have hn2 := hn1.set3 (i := k) (by rw [List.length_append]; omega) ⟨x.k, n', x.kids⟩
  rw [List.set_append_left _ _ hkl] at hn2
  generalize hw2 : ((w1.setCell ⟨gV, k * 3, none⟩ (.int .i64 x.k)).setCell ⟨gV, k * 3 + 1, none⟩ (.int .u64 n')).setCell ⟨gV, k * 3 + 2, none⟩ (.int .i64 x.kids) = w2 at *
  refine ⟨⟨?_, ?_, ?_, ?_, ?_, ?_, ?_, ?_, ?_, ?_⟩, hgv, hgV⟩
  · exact blk_ne_upd (blk_ne_upd h.sbox hu1 hb1 (by decide)) hu2 hb2 (by decide)
  · rw [List.length_set]
    exact blk_ne_upd (blk_ne_upd h.lbox hu1 hb1 (by decide)) hu2 hb2 (by decide)
  · exact (h.tow.updN hu1 hb1 (by omega) (by decide) (by decide)).updN hu2 hb2 (by omega) (by decide) (by decide)
  · exact (h.ro.updN hu1 hb1 (by decide)).updN hu2 hb2 (by decide)
  · rw [List.length_set]
    exact hv1.upd hu2 (fun q hq e => by have := own_is hq; omega)
  · exact (h.lt.upd hu1 (fun q hq => by omega)).updN hu2 hb2 hgV (by decide) (by decide) (by decide)
  · rw [List.length_set]
    exact hn2
  · exact upd_ne (upd_ne h.io hu1 hb1 (by decide)) hu2 hb2 (by decide)
  · exact (h.tab.upd hu1 (by omega)).upd hu2 (by omega)
  · rw [List.length_set]
    exact h.lo
end Go.Proofs.YtlfjcihhcphjkaaDoor
/- The document's walk. -/
namespace Go.Proofs.YtlfjcihhcphjkaaDoor
open Go.RowKit
set_option linter.unusedVariables false

set_option maxRecDepth 100000 in
set_option maxHeartbeats 16000000 in
theorem walk_any (wb : World) (bT oT cT : Nat) (T : List Ty) (aR : Option Addr) (cR : Nat) (R : List Rt) (bV oV cV : Nat) (V : List Nv) (t0 : Int) (hV : V.length ≤ 2000000) (hS : Hid (OkS T R)) (hNv : Hid (∀ x ∈ V, NvOk x)) (hT : Hid (TRow wb (some ⟨bT, oT, none⟩) T)) (hVr : Hid (VRow wb (some ⟨bV, oV, none⟩) V)) :
    ∀ (f i : Nat) (s : Int) (st nums : List Int) (v : Value) (w : World), V.length - i ≤ f → Hid (Below wb.heap.size wb w) → Hid (WkI T t0 V i (s :: st) nums) → Hid (IOwn w wb.heap.size v nums) →
      Calls Tryd.prog 51 #[.agg #[.slice (some ⟨bT, oT, none⟩) T.length cT, .slice aR R.length cR], .int .i64 s, .slice (some ⟨bV, oV, none⟩) V.length cV, .int .i64 (i : Int), v] w fun e w' => WalkTo T t0 V st wb.heap.size i v w e w' := by
  intro f
  induction f with
  | zero =>
    intro i s st nums v w hf hBw hWk hO
    have h1 := chkV_le _ _ _ (by omega) hWk.out.chk
    simp at h1
    omega
  | succ f ih =>
    intro i s st nums v w hf hBw0 hWk hO
    have hih := hide_ ih
    clear ih
    have hi : i < V.length := by
      have h1 := chkV_le _ _ _ (by omega) hWk.out.chk
      simp at h1
      omega
    have hi' : (i : Int) < V.length := by omega
    have hxV : V[i]? = some (V[i]'hi) := List.getElem?_eq_getElem hi
    obtain ⟨s', r', e1, hs0, hs1, hrx, hbad, hgood⟩ := hWk.out.next hS.out hxV
    injection e1 with e1 e2
    subst e1 e2
    obtain ⟨sn, rfl⟩ := Int.eq_ofNat_of_zero_le hs0
    have hsn : sn < T.length := by omega
    have hsn' : (sn : Int) < T.length := hs1
    have hnvx := hNv.out _ (List.mem_of_getElem? hxV)
    have hok := hS.out.ty sn hsn
    rw [Int.toNat_natCast] at hbad hgood
    have htS : T[sn]? = some (T[sn]'hsn) := List.getElem?_eq_getElem hsn
    rw [show T.getD sn ty0 = T[sn]'hsn by simp [List.getD, hsn]] at hok hbad hgood
    have hB := below2 w (.cells #[.slice (some ⟨bT, oT, none⟩) T.length cT, .slice aR R.length cR] 25) (.cells #[.int .i64 0, .int .i64 0] 42)
    obtain ⟨k1, k2⟩ := blk2 w #[.slice (some ⟨bT, oT, none⟩) T.length cT, .slice aR R.length cR] #[.int .i64 0, .int .i64 0] 25 42
    obtain ⟨w0, hw0⟩ : ∃ wx, wx = (w.alloc (.cells #[.slice (some ⟨bT, oT, none⟩) T.length cT, .slice aR R.length cR] 25)).alloc (.cells #[.int .i64 0, .int .i64 0] 42) := ⟨_, rfl⟩
    rw [← hw0] at hB k1 k2
    have hzb : wb.heap.size ≤ w.heap.size := hBw0.out.size
    obtain ⟨_, _, e3, hbT, hcT⟩ := hT.out.open (by omega)
    injection e3 with e3
    injection e3 with e4 e5 _
    subst e4 e5
    obtain ⟨va, vc, hty, hvc, -, hpr⟩ := hcT sn _ htS
    obtain ⟨_, _, e6, hbV, hcV⟩ := hVr.out.open (by omega)
    injection e6 with e6
    injection e6 with e7 e8 _
    subst e7 e8
    have hnd := hcV i _ hxV
    generalize T[sn]'hsn = t at *
    generalize V[i]'hi = x at *
    have KS0 := hide_ k1
    have HCel : Hid (∀ w', Below wb.heap.size wb w' → w'.cell? ⟨bT, oT + sn * 4, none⟩ = some (.int .i64 t.k) ∧ w'.cell? ⟨bT, oT + sn * 4 + 1, none⟩ = some (.int .i64 t.n) ∧ w'.cell? ⟨bT, oT + sn * 4 + 2, none⟩ = some (.int .i64 t.e) ∧ w'.cell? ⟨bT, oT + sn * 4 + 3, none⟩ = some (.slice va t.ps.length vc) ∧ w'.cell? ⟨bV, oV + i * 3, none⟩ = some (.int .i64 x.k) ∧ w'.cell? ⟨bV, oV + i * 3 + 1, none⟩ = some (.int .u64 x.n) ∧ w'.cell? ⟨bV, oV + i * 3 + 2, none⟩ = some (.int .i64 x.kids)) := hide_ (fun w' hB' => ⟨(hB'.cell (p := ⟨bT, oT + sn * 4 + 0, none⟩) hbT).trans (hty 0 (by decide)), (hB'.cell (p := ⟨bT, oT + sn * 4 + 1, none⟩) hbT).trans (hty 1 (by decide)), (hB'.cell (p := ⟨bT, oT + sn * 4 + 2, none⟩) hbT).trans (hty 2 (by decide)), (hB'.cell (p := ⟨bT, oT + sn * 4 + 3, none⟩) hbT).trans (hty 3 (by decide)), (hB'.cell (p := ⟨bV, oV + i * 3 + 0, none⟩) hbV).trans (hnd 0 (by decide)), (hB'.cell (p := ⟨bV, oV + i * 3 + 1, none⟩) hbV).trans (hnd 1 (by decide)), (hB'.cell (p := ⟨bV, oV + i * 3 + 2, none⟩) hbV).trans (hnd 2 (by decide))⟩)
    have hBw := hide_ (hBw0.out.trans (hB.mono hzb))
    have HPr := hide_ hpr
    have HOk := hide_ hok
    have HFi : Hid (∀ w', Below w0.heap.size w0 w' → Calls Tryd.prog 65 #[.agg #[.int .i64 t.k, .int .i64 t.n, .int .i64 t.e, .slice va t.ps.length vc], .agg #[.int .i64 x.k, .int .u64 x.n, .int .i64 x.kids]] w' fun e w'' => e = .returned (.int .i64 (misP t x)) ∧ Below w'.heap.size w' w'') := hide_ (fun w' hB' => fitsR_any t x va vc _ w' HOk hrx hnvx (hide_ (HPr.out.later (hBw.out.trans (hB'.mono (Nat.le_trans hzb hB.size))))))
    have HSS : Hid (∀ w', Below w0.heap.size w0 w' → (fun w' => Below w0.heap.size w0 w' ∧ w'.cell? ⟨w.heap.size, 0, none⟩ = some (.slice (some ⟨bT, oT, none⟩) T.length cT) ∧ w'.cell? ⟨bT, oT + sn * 4, none⟩ = some (.int .i64 t.k) ∧ w'.cell? ⟨bT, oT + sn * 4 + 1, none⟩ = some (.int .i64 t.n) ∧ w'.cell? ⟨bT, oT + sn * 4 + 2, none⟩ = some (.int .i64 t.e) ∧ w'.cell? ⟨bT, oT + sn * 4 + 3, none⟩ = some (.slice va t.ps.length vc) ∧ w'.cell? ⟨bV, oV + i * 3, none⟩ = some (.int .i64 x.k) ∧ w'.cell? ⟨bV, oV + i * 3 + 1, none⟩ = some (.int .u64 x.n) ∧ w'.cell? ⟨bV, oV + i * 3 + 2, none⟩ = some (.int .i64 x.kids)) w') := hide_ (fun w' hB' => ⟨hB', (KS0.out.later hB').cell 0, HCel.out w' (hBw.out.trans (hB'.mono (Nat.le_trans hzb hB.size)))⟩)
    have KR0 := hide_ k2
    have HB0 := hide_ hB
    have hz0 : w.heap.size + 1 < w0.heap.size := k2.lt
    clear hty hnd hcT hcV hxV htS hpr hok hB k1 k2
    go_enter Tryd.func51, Tryd.ntmps51
    go_upto_region 1 with fail
    rw [← hw0]
    clear hw0
    have HBad := hide_ hbad
    have HGood := hide_ hgood
    clear hbad hgood
    refine wp_region_last 10 (fun w' => Below w0.heap.size w0 w' ∧ w'.cell? ⟨w.heap.size, 0, none⟩ = some (.slice (some ⟨bT, oT, none⟩) T.length cT) ∧ w'.cell? ⟨bT, oT + sn * 4, none⟩ = some (.int .i64 t.k) ∧ w'.cell? ⟨bT, oT + sn * 4 + 1, none⟩ = some (.int .i64 t.n) ∧ w'.cell? ⟨bT, oT + sn * 4 + 2, none⟩ = some (.int .i64 t.e) ∧ w'.cell? ⟨bT, oT + sn * 4 + 3, none⟩ = some (.slice va t.ps.length vc) ∧ w'.cell? ⟨bV, oV + i * 3, none⟩ = some (.int .i64 x.k) ∧ w'.cell? ⟨bV, oV + i * 3 + 1, none⟩ = some (.int .u64 x.n) ∧ w'.cell? ⟨bV, oV + i * 3 + 2, none⟩ = some (.int .i64 x.kids)) (by kernel_rfl) (HSS.out _ ((Below.refl w0.heap.size w0).drew)) (fun hHeld => ?_)
    refine wpAnyF_take [10] (by kernel_rfl) (i := 0) (v := ?va1) rfl (by kernel_rfl) (by kernel_rfl) (by kernel_rfl) (fun _ _ _ h => h) (Or.inl ⟨by kernel_rfl, ?hya1⟩) hHeld ?resta1
    case hya1 => intro w' hSw; (try dsimp only at hSw); go_simp; try with_reducible rfl
    simp only [Act.put]
    refine wpAnyF_take [10] (by kernel_rfl) (i := 1) (v := ?va2) rfl (by kernel_rfl) (by kernel_rfl) (by kernel_rfl) (fun _ _ _ h => h) (Or.inl ⟨by kernel_rfl, ?hya2⟩) hHeld ?resta2
    case hya2 => intro w' hSw; (try dsimp only at hSw); go_simp; try with_reducible rfl
    simp only [Act.put]
    refine wpAnyF_take [10] (by kernel_rfl) (i := 2) (v := ?va3) rfl (by kernel_rfl) (by kernel_rfl) (by kernel_rfl) (fun _ _ _ h => h) (Or.inl ⟨by kernel_rfl, ?hya3⟩) hHeld ?resta3
    case hya3 => intro w' hSw; (try dsimp only at hSw); go_simp; try with_reducible rfl
    simp only [Act.put]
    refine wpAnyF_take [10] (by kernel_rfl) (i := 3) (v := ?va4) rfl (by kernel_rfl) (by kernel_rfl) (by kernel_rfl) (fun _ _ _ h => h) (Or.inl ⟨by kernel_rfl, ?hya4⟩) hHeld ?resta4
    case hya4 => intro w' hSw; (try dsimp only at hSw); go_simp; try with_reducible rfl
    simp only [Act.put]
    refine wpAnyF_take [10] (by kernel_rfl) (i := 4) (v := ?va5) rfl (by kernel_rfl) (by kernel_rfl) (by kernel_rfl) (fun _ _ _ h => h) (Or.inl ⟨by kernel_rfl, ?hya5⟩) hHeld ?resta5
    case hya5 => intro w' hSw; (try dsimp only at hSw); go_simp; try with_reducible rfl
    simp only [Act.put]
    refine wpAnyF_take [10] (by kernel_rfl) (i := 5) (v := ?va6) rfl (by kernel_rfl) (by kernel_rfl) (by kernel_rfl) (fun _ _ _ h => h) (Or.inl ⟨by kernel_rfl, ?hya6⟩) hHeld ?resta6
    case hya6 => intro w' hSw; (try dsimp only at hSw); go_simp; try with_reducible rfl
    simp only [Act.put]
    refine wpAnyF_take [10] (by kernel_rfl) (i := 6) (v := ?va7) rfl (by kernel_rfl) (by kernel_rfl) (by kernel_rfl) (fun _ _ _ h => h) (Or.inl ⟨by kernel_rfl, ?hya7⟩) hHeld ?resta7
    case hya7 => intro w' hSw; (try dsimp only at hSw); go_simp; try with_reducible rfl
    simp only [Act.put]
    refine wpAnyF_take [10] (by kernel_rfl) (i := 7) (v := ?va8) rfl (by kernel_rfl) (by kernel_rfl) (by kernel_rfl) (fun _ _ _ h => h) (Or.inl ⟨by kernel_rfl, ?hya8⟩) hHeld ?resta8
    case hya8 => intro w' hSw; (try dsimp only at hSw); go_simp; try with_reducible rfl
    simp only [Act.put]
    refine wpAnyF_take [10] (by kernel_rfl) (i := 8) (v := ?va9) rfl (by kernel_rfl) (by kernel_rfl) (by kernel_rfl) (fun _ _ _ h => h) (Or.inl ⟨by kernel_rfl, ?hya9⟩) hHeld ?resta9
    case hya9 => intro w' hSw; (try dsimp only at hSw); go_simp; try with_reducible rfl
    simp only [Act.put]
    refine wpAnyF_ready (rs := [9]) (by kernel_rfl) (by simp) ?_
    refine AllReadyF.cons rfl (fun K hK => ?_) AllReadyF.nil
    go_simp
    refine (HFi.out _ ((Below.refl w0.heap.size w0).drew)).mono ?_
    rintro e w2 ⟨rfl, hB2⟩
    dsimp only
    have HB2 := hide_ (below_to ((Below.refl w0.heap.size w0).drew) hB2)
    clear hB2
    refine hK.out _ _ (HSS.out _ HB2.out) (fun hHeld => ?_)
    clear hK K
    refine wpAnyF_ready (rs := [10]) (by kernel_rfl) (by simp) ?_
    refine AllReadyF.last rfl (fun K hK => ?_)
    go_simp
    refine hK.out _ _ ?_
    clear hK K
    refine wpAnyF_done (by kernel_rfl) ?_ _
    clear HFi HSS hHeld
    have KS2 := hide_ (KS0.out.later HB2.out)
    have KR2 := hide_ (KR0.out.later HB2.out)
    have HU2 : Hid (Upd (fun k => v.ownBlock = some k) w w2) := hide_ ((Upd.of_below HB0.out).then HB2.out)
    have hzq2 : w0.heap.size ≤ w2.heap.size := HB2.out.size
    have HBw2 : Hid (Below wb.heap.size wb w2) := hide_ (hBw.out.trans (HB2.out.mono (by omega)))
    have HO2 := hide_ ((hO.out.later HB0.out).later HB2.out)
    obtain ⟨M, hM⟩ : ∃ M, misP t x = M := ⟨_, rfl⟩
    rw [hM] at HBad HGood
    rw [hM]
    have HM := hide_ hM
    clear hM
    by_cases hM0 : M = 0
    · subst hM0
      have HWk1 := hide_ (HGood.out rfl)
      obtain ⟨g3, c3, w3, hrun, hO3, hU3, hL3⟩ := HO2.out.push (sn : Int) (by have := hWk.out.len; omega) HBw2.out.size
      have hlen := hWk.out.len
      rw [hlen] at hrun hO3
      have HRun := hide_ hrun
      have nb3 : ∀ b t' ys, Blk w2 b t' ys → t' ≠ 3 → ¬ v.ownBlock = some b := fun b t' ys hb ht => HO2.out.ne hb ht
      have ks3 := KS2.out.upd hU3 (nb3 _ _ _ KS2.out (by decide))
      have kr3 := KR2.out.upd hU3 (nb3 _ _ _ KR2.out (by decide))
      have hu3 : Upd (fun k => v.ownBlock = some k) w w3 := HU2.out.to hU3
      have hb3 : Below wb.heap.size wb w3 := HBw2.out.trans (hU3.below _ HBw2.out.size (fun k hk => (HO2.out.lt k hk).1))
      obtain ⟨w4, hw4⟩ : ∃ wx, wx = w3.alloc (.cells #[.int .i64 0, .int .i64 0] 42) := ⟨_, rfl⟩
      have ba : Below w3.heap.size w3 w4 := by rw [hw4]; exact below1 _ _
      have kf4 : Blk w4 w3.heap.size 42 [.int .i64 0, .int .i64 0] := by rw [hw4]; exact Blk.newA w3 _ _
      obtain ⟨g15, hg15⟩ : ∃ g, w3.heap.size = g := ⟨_, rfl⟩
      have hg15b : w.heap.size + 1 < g15 := by have := hU3.size; omega
      have KF4 : Hid (Blk w4 g15 42 [.int .i64 0, .int .i64 0]) := hide_ (by rw [← hg15]; exact kf4)
      have KS4 := hide_ (ks3.later ba)
      have KR4 := hide_ (kr3.later ba)
      have HU4 := hide_ (hu3.then ba)
      have HO4 := hide_ (hO3.later ba)
      have HL4 : Hid (∀ b, (Value.slice (some ⟨g3, 0, none⟩) (i + 1) c3).ownBlock = some b → v.ownBlock = some b ∨ w.heap.size ≤ b) := hide_ (fun b hb => by
        have := own_is hb
        subst this
        rcases hL3 with h | h
        · exact .inl h
        · exact .inr (by omega))
      have hw1 : wrap64 ((i : Int) + 1) = (i : Int) + 1 := w64 _ (by omega)
      clear hrun hO3 hU3 nb3 ks3 kr3 hu3 hb3 ba kf4 hlen hL3
      go_upto_region 7 with (first | (at_builtin; refine wpList_append_run rfl (.tmp 32) (.tmp 34) 26 26 rfl rfl rfl HRun.out ?_; clear HRun))
      try rw [← hw4]
      try rw [hg15]
      have HW1 := hide_ hw1
      clear hw4 hg15 hw1
      go_wp2_with fail
      go_loopw [4, 14, 16] (fun x4 x14 x16 wr => ∃ (v1 : Value) (p1 k : Nat) (nums1 : List Int), v1 = x4 ∧ x14 = .int .i64 (p1 : Int) ∧ x16 = .int .i64 (k : Int) ∧ (k : Int) ≤ x.kids ∧ i < p1 ∧ Hid (WkI T t0 V p1 ((kidsT t x).drop k ++ st) nums1) ∧ Hid (IOwn wr wb.heap.size v1 nums1) ∧ Hid (∀ b, v1.ownBlock = some b → v.ownBlock = some b ∨ w.heap.size ≤ b) ∧ Hid (Upd (fun b => v.ownBlock = some b) w wr) ∧ Hid (Blk wr w.heap.size 25 [.slice (some ⟨bT, oT, none⟩) T.length cT, .slice aR R.length cR]) ∧ Hid (Blk wr (w.heap.size + 1) 42 [.int .i64 0, .int .i64 0]) ∧ Hid (Blk wr g15 42 [.int .i64 0, .int .i64 0])) (fun _ _ x16 _ => (x.kids - intOf x16).toNat)
      case atStart => exact ⟨_, i + 1, 0, _, rfl, by first | (rw [HW1.out]; rfl) | (rw [HW1.out]; push_cast; rfl), rfl, by have := (rightV_kids hrx).1; omega, by omega, hide_ (by have h := HWk1.out; simpa using h), HO4, HL4, HU4, KS4, KR4, KF4⟩
      case round =>
        obtain ⟨v1, p1, k, nums1, rfl, rfl, rfl, hk, hip, HWq, HOq, HLi, HUq, KS, KR, KF⟩ := hrel
        generalize wr = wq at *
        clear KS4 KR4 KF4 HU4 HO4 HL4 KS2 KR2 HU2 HO2 HB2 KS0 KR0 HB0
        have HBw : Hid (Below wb.heap.size wb wq) := hide_ (hBw0.out.trans (HUq.out.below _ hzb (fun b hb => (hO.out.lt b hb).1)))
        have hzq : wb.heap.size ≤ wq.heap.size := HBw.out.size
        have hkb : x.kids ≤ 1048576 := (rightV_kids hrx).2
        obtain ⟨c0, c1, c2, c3', c4, c5, c6⟩ := HCel.out wq HBw.out
        by_cases hkl : (k : Int) < x.kids
        · obtain ⟨s1, hs1k, hel⟩ := elemR_any t x va vc _ k wq HOk HM.out hrx hkl (hide_ (HPr.out.later HBw.out))
          have HEl : Hid (∀ w', Below wq.heap.size wq w' → Calls Tryd.prog 63 #[.agg #[.int .i64 t.k, .int .i64 t.n, .int .i64 t.e, .slice va t.ps.length vc], .agg #[.int .i64 x.k, .int .u64 x.n, .int .i64 x.kids], .int .i64 (k : Int)] w' fun e w'' => e = .returned (.int .i64 s1) ∧ Below w'.heap.size w' w'') := hide_ (fun w' hB' => by
            obtain ⟨s2, h2, h3⟩ := elemR_any t x va vc _ k w' HOk HM.out hrx hkl (hide_ (HPr.out.later (HBw.out.trans (hB'.mono hzq))))
            rw [hs1k] at h2
            injection h2 with h2
            subst h2
            exact h3)
          have hdr : (kidsT t x).drop k ++ st = s1 :: ((kidsT t x).drop (k + 1) ++ st) := by
            have hlt := (List.getElem?_eq_some_iff.1 hs1k).1
            rw [List.drop_eq_getElem_cons hlt, (List.getElem?_eq_some_iff.1 hs1k).2]
            rfl
          rw [hdr] at HWq
          have HWa : Hid (∀ w', Below wq.heap.size wq w' → Calls Tryd.prog 51 #[.agg #[.slice (some ⟨bT, oT, none⟩) T.length cT, .slice aR R.length cR], .int .i64 s1, .slice (some ⟨bV, oV, none⟩) V.length cV, .int .i64 (p1 : Int), v1] w' fun e w'' => WalkTo T t0 V ((kidsT t x).drop (k + 1) ++ st) wb.heap.size p1 v1 w' e w'') := hide_ (fun w' hB' => hih.out p1 s1 _ nums1 v1 w' (by omega) (hide_ (HBw.out.trans (hB'.mono hzq))) HWq (hide_ (HOq.out.later hB')))
          have k0 := KS.out.cell 0; have k1' := KS.out.cell 1
          simp at k0 k1'
          have HSS : Hid (∀ w', Below wq.heap.size wq w' ∨ Upd (fun b => v1.ownBlock = some b) wq w' → (fun w' => w'.cell? ⟨w.heap.size, 1, none⟩ = some (.slice aR R.length cR) ∧ w'.cell? ⟨w.heap.size, 0, none⟩ = some (.slice (some ⟨bT, oT, none⟩) T.length cT) ∧ w'.cell? ⟨bT, oT + sn * 4, none⟩ = some (.int .i64 t.k) ∧ w'.cell? ⟨bT, oT + sn * 4 + 1, none⟩ = some (.int .i64 t.n) ∧ w'.cell? ⟨bT, oT + sn * 4 + 2, none⟩ = some (.int .i64 t.e) ∧ w'.cell? ⟨bT, oT + sn * 4 + 3, none⟩ = some (.slice va t.ps.length vc) ∧ w'.cell? ⟨bV, oV + i * 3, none⟩ = some (.int .i64 x.k) ∧ w'.cell? ⟨bV, oV + i * 3 + 1, none⟩ = some (.int .u64 x.n) ∧ w'.cell? ⟨bV, oV + i * 3 + 2, none⟩ = some (.int .i64 x.kids)) w') := hide_ (fun w' hB' => by
            have hu : Upd (fun b => v1.ownBlock = some b) wq w' := hB'.elim (fun h => Upd.of_below h) (fun h => h)
            have hks := KS.out.upd hu (HOq.out.ne KS.out (by decide))
            exact ⟨hks.cell 1, hks.cell 0, HCel.out w' (HBw.out.trans (hu.below _ hzq (fun b hb => (HOq.out.lt b hb).1)))⟩)
          clear hel hs1k hdr
          go_upto_region 10 with fail
          clear c0 c1 c2 c3' c4 c5 c6
          refine wp_region_last 22 (fun w' => w'.cell? ⟨w.heap.size, 1, none⟩ = some (.slice aR R.length cR) ∧ w'.cell? ⟨w.heap.size, 0, none⟩ = some (.slice (some ⟨bT, oT, none⟩) T.length cT) ∧ w'.cell? ⟨bT, oT + sn * 4, none⟩ = some (.int .i64 t.k) ∧ w'.cell? ⟨bT, oT + sn * 4 + 1, none⟩ = some (.int .i64 t.n) ∧ w'.cell? ⟨bT, oT + sn * 4 + 2, none⟩ = some (.int .i64 t.e) ∧ w'.cell? ⟨bT, oT + sn * 4 + 3, none⟩ = some (.slice va t.ps.length vc) ∧ w'.cell? ⟨bV, oV + i * 3, none⟩ = some (.int .i64 x.k) ∧ w'.cell? ⟨bV, oV + i * 3 + 1, none⟩ = some (.int .u64 x.n) ∧ w'.cell? ⟨bV, oV + i * 3 + 2, none⟩ = some (.int .i64 x.kids)) (by kernel_rfl) (HSS.out _ (.inl ((Below.refl wq.heap.size wq).drew))) (fun hHeld => ?_)
          refine wpAnyF_take [22] (by kernel_rfl) (i := 0) (v := ?vb1) rfl (by kernel_rfl) (by kernel_rfl) (by kernel_rfl) (fun _ _ _ h => h) (Or.inl ⟨by kernel_rfl, ?hyb1⟩) hHeld ?restb1
          case hyb1 => intro w' hSw; (try dsimp only at hSw); go_simp; try with_reducible rfl
          simp only [Act.put]
          refine wpAnyF_take [22] (by kernel_rfl) (i := 1) (v := ?vb2) rfl (by kernel_rfl) (by kernel_rfl) (by kernel_rfl) (fun _ _ _ h => h) (Or.inl ⟨by kernel_rfl, ?hyb2⟩) hHeld ?restb2
          case hyb2 => intro w' hSw; (try dsimp only at hSw); go_simp; try with_reducible rfl
          simp only [Act.put]
          refine wpAnyF_take [22] (by kernel_rfl) (i := 2) (v := ?vb3) rfl (by kernel_rfl) (by kernel_rfl) (by kernel_rfl) (fun _ _ _ h => h) (Or.inl ⟨by kernel_rfl, ?hyb3⟩) hHeld ?restb3
          case hyb3 => intro w' hSw; (try dsimp only at hSw); go_simp; try with_reducible rfl
          simp only [Act.put]
          refine wpAnyF_take [22] (by kernel_rfl) (i := 3) (v := ?vb4) rfl (by kernel_rfl) (by kernel_rfl) (by kernel_rfl) (fun _ _ _ h => h) (Or.inl ⟨by kernel_rfl, ?hyb4⟩) hHeld ?restb4
          case hyb4 => intro w' hSw; (try dsimp only at hSw); go_simp; try with_reducible rfl
          simp only [Act.put]
          refine wpAnyF_take [22] (by kernel_rfl) (i := 4) (v := ?vb5) rfl (by kernel_rfl) (by kernel_rfl) (by kernel_rfl) (fun _ _ _ h => h) (Or.inl ⟨by kernel_rfl, ?hyb5⟩) hHeld ?restb5
          case hyb5 => intro w' hSw; (try dsimp only at hSw); go_simp; try with_reducible rfl
          simp only [Act.put]
          refine wpAnyF_take [22] (by kernel_rfl) (i := 5) (v := ?vb6) rfl (by kernel_rfl) (by kernel_rfl) (by kernel_rfl) (fun _ _ _ h => h) (Or.inl ⟨by kernel_rfl, ?hyb6⟩) hHeld ?restb6
          case hyb6 => intro w' hSw; (try dsimp only at hSw); go_simp; try with_reducible rfl
          simp only [Act.put]
          refine wpAnyF_take [22] (by kernel_rfl) (i := 6) (v := ?vb7) rfl (by kernel_rfl) (by kernel_rfl) (by kernel_rfl) (fun _ _ _ h => h) (Or.inl ⟨by kernel_rfl, ?hyb7⟩) hHeld ?restb7
          case hyb7 => intro w' hSw; (try dsimp only at hSw); go_simp; try with_reducible rfl
          simp only [Act.put]
          refine wpAnyF_take [22] (by kernel_rfl) (i := 7) (v := ?vb8) rfl (by kernel_rfl) (by kernel_rfl) (by kernel_rfl) (fun _ _ _ h => h) (Or.inl ⟨by kernel_rfl, ?hyb8⟩) hHeld ?restb8
          case hyb8 => intro w' hSw; (try dsimp only at hSw); go_simp; try with_reducible rfl
          simp only [Act.put]
          refine wpAnyF_take [22] (by kernel_rfl) (i := 8) (v := ?vb9) rfl (by kernel_rfl) (by kernel_rfl) (by kernel_rfl) (fun _ _ _ h => h) (Or.inl ⟨by kernel_rfl, ?hyb9⟩) hHeld ?restb9
          case hyb9 => intro w' hSw; (try dsimp only at hSw); go_simp; try with_reducible rfl
          simp only [Act.put]
          refine wpAnyF_take [22] (by kernel_rfl) (i := 9) (v := ?vb10) rfl (by kernel_rfl) (by kernel_rfl) (by kernel_rfl) (fun _ _ _ h => h) (Or.inl ⟨by kernel_rfl, ?hyb10⟩) hHeld ?restb10
          case hyb10 => intro w' hSw; (try dsimp only at hSw); go_simp; try with_reducible rfl
          simp only [Act.put]
          refine wpAnyF_take [22] (by kernel_rfl) (i := 10) (v := ?vb11) rfl (by kernel_rfl) (by kernel_rfl) (by kernel_rfl) (fun _ _ _ h => h) (Or.inl ⟨by kernel_rfl, ?hyb11⟩) hHeld ?restb11
          case hyb11 => intro w' hSw; (try dsimp only at hSw); go_simp; try with_reducible rfl
          simp only [Act.put]
          refine wpAnyF_take [22] (by kernel_rfl) (i := 12) (v := ?vb12) rfl (by kernel_rfl) (by kernel_rfl) (by kernel_rfl) (fun _ _ _ h => h) (Or.inl ⟨by kernel_rfl, ?hyb12⟩) hHeld ?restb12
          case hyb12 => intro w' hSw; (try dsimp only at hSw); go_simp; try with_reducible rfl
          simp only [Act.put]
          refine wpAnyF_take [22] (by kernel_rfl) (i := 13) (v := ?vb13) rfl (by kernel_rfl) (by kernel_rfl) (by kernel_rfl) (fun _ _ _ h => h) (Or.inl ⟨by kernel_rfl, ?hyb13⟩) hHeld ?restb13
          case hyb13 => intro w' hSw; (try dsimp only at hSw); go_simp; try with_reducible rfl
          simp only [Act.put]
          refine wpAnyF_take [22] (by kernel_rfl) (i := 14) (v := ?vb14) rfl (by kernel_rfl) (by kernel_rfl) (by kernel_rfl) (fun _ _ _ h => h) (Or.inl ⟨by kernel_rfl, ?hyb14⟩) hHeld ?restb14
          case hyb14 => intro w' hSw; (try dsimp only at hSw); go_simp; try with_reducible rfl
          simp only [Act.put]
          refine wpAnyF_ready (rs := [11]) (by kernel_rfl) (by simp) ?_
          refine AllReadyF.cons rfl (fun K hK => ?_) AllReadyF.nil
          go_simp
          refine (HEl.out _ ((Below.refl wq.heap.size wq).drew)).mono ?_
          rintro e w5 ⟨rfl, hB5⟩
          dsimp only
          have HB5 := hide_ (below_to ((Below.refl wq.heap.size wq).drew) hB5)
          clear hB5
          refine hK.out _ _ (HSS.out _ (.inl HB5.out)) (fun hHeld => ?_)
          clear hK K
          refine wpAnyF_ready (rs := [15]) (by kernel_rfl) (by simp) ?_
          refine AllReadyF.cons rfl (fun K hK => ?_) AllReadyF.nil
          go_simp
          refine (HWa.out _ HB5.out).mono ?_
          rintro e w6 ⟨v2, p2, E, A, rfl, HU6, HW6⟩
          dsimp only
          have HB6 : Hid (Below wb.heap.size wb w6) := hide_ ((HBw.out.trans (HB5.out.mono hzq)).trans (HU6.out.below _ (Nat.le_trans hzq HB5.out.size) (fun b hb => (HOq.out.lt b hb).1)))
          refine hK.out _ _ (HSS.out _ (.inr ((Upd.of_below HB5.out).to HU6.out))) (fun hHeld => ?_)
          clear hK K
          refine wpAnyF_take [22] (by kernel_rfl) (i := 16) (v := ?vb15) rfl (by kernel_rfl) (by kernel_rfl) (by kernel_rfl) (fun _ _ _ h => h) (Or.inl ⟨by kernel_rfl, ?hyb15⟩) hHeld ?restb15
          case hyb15 => intro w' hSw; (try dsimp only at hSw); go_simp; try with_reducible rfl
          simp only [Act.put]
          refine wpAnyF_take [22] (by kernel_rfl) (i := 17) (v := ?vb16) rfl (by kernel_rfl) (by kernel_rfl) (by kernel_rfl) (fun _ _ _ h => h) (Or.inl ⟨by kernel_rfl, ?hyb16⟩) hHeld ?restb16
          case hyb16 => intro w' hSw; (try dsimp only at hSw); go_simp; try with_reducible rfl
          simp only [Act.put]
          refine wpAnyF_take [22] (by kernel_rfl) (i := 18) (v := ?vb17) rfl (by kernel_rfl) (by kernel_rfl) (by kernel_rfl) (fun _ _ _ h => h) (Or.inl ⟨by kernel_rfl, ?hyb17⟩) hHeld ?restb17
          case hyb17 => intro w' hSw; (try dsimp only at hSw); go_simp; try with_reducible rfl
          simp only [Act.put]
          refine wpAnyF_take [22] (by kernel_rfl) (i := 19) (v := ?vb18) rfl (by kernel_rfl) (by kernel_rfl) (by kernel_rfl) (fun _ _ _ h => h) (Or.inl ⟨by kernel_rfl, ?hyb18⟩) hHeld ?restb18
          case hyb18 => intro w' hSw; (try dsimp only at hSw); go_simp; try with_reducible rfl
          simp only [Act.put]
          refine wpAnyF_take [22] (by kernel_rfl) (i := 20) (v := ?vb19) rfl (by kernel_rfl) (by kernel_rfl) (by kernel_rfl) (fun _ _ _ h => h) (Or.inl ⟨by kernel_rfl, ?hyb19⟩) hHeld ?restb19
          case hyb19 => intro w' hSw; (try dsimp only at hSw); go_simp; try with_reducible rfl
          simp only [Act.put]
          refine wpAnyF_take [22] (by kernel_rfl) (i := 21) (v := ?vb20) rfl (by kernel_rfl) (by kernel_rfl) (by kernel_rfl) (fun _ _ _ h => h) (Or.inl ⟨by kernel_rfl, ?hyb20⟩) hHeld ?restb20
          case hyb20 => intro w' hSw; (try dsimp only at hSw); go_simp; try with_reducible rfl
          simp only [Act.put]
          refine wpAnyF_ready (rs := [22]) (by kernel_rfl) (by simp) ?_
          refine AllReadyF.last rfl (fun K hK => ?_)
          have nb : ∀ b t' ys, Blk w5 b t' ys → t' ≠ 3 → ¬ v1.ownBlock = some b := fun b t' ys hb ht => (HOq.out.later HB5.out).ne hb ht
          have k15 := (KF.out.later HB5.out).upd HU6.out (nb _ _ _ (KF.out.later HB5.out) (by decide))
          have k12 := (KR.out.later HB5.out).upd HU6.out (nb _ _ _ (KR.out.later HB5.out) (by decide))
          have k5 := (KS.out.later HB5.out).upd HU6.out (nb _ _ _ (KS.out.later HB5.out) (by decide))
          have l0 := k15.cell 0; have l1 := k15.cell 1
          have lf := fun i => k15.frozen i
          simp at l0 l1
          have hu6 : Upd (fun b => v.ownBlock = some b) w w6 := by
            refine (HUq.out.then HB5.out).trans HU6.out (fun b hb hk => ?_)
            rcases HLi.out b hk with h | h
            · exact h
            · omega
          go_simp
          refine hK.out _ _ ?_
          clear hK K
          refine wpAnyF_done (by kernel_rfl) ?_ _
          have K15 := hide_ (wr2 k15 (.int .i64 E) (.int .i64 A))
          have K12 := hide_ ((k12.other ⟨g15, 0, none⟩ (.int .i64 E) (by show w.heap.size + 1 ≠ g15; omega)).other ⟨g15, 1, none⟩ (.int .i64 A) (by show w.heap.size + 1 ≠ g15; omega))
          have K5 := hide_ ((k5.other ⟨g15, 0, none⟩ (.int .i64 E) (by show w.heap.size ≠ g15; omega)).other ⟨g15, 1, none⟩ (.int .i64 A) (by show w.heap.size ≠ g15; omega))
          have HU7 := hide_ ((hu6.set ⟨g15, 0, none⟩ (.int .i64 E) (.inr (by show w.heap.size ≤ g15; omega))).set ⟨g15, 1, none⟩ (.int .i64 A) (.inr (by show w.heap.size ≤ g15; omega)))
          have HOn : Hid (E = 0 → ∃ nums2, WkI T t0 V p2 ((kidsT t x).drop (k + 1) ++ st) nums2 ∧ p1 < p2 ∧ IOwn ((w6.setCell ⟨g15, 0, none⟩ (.int .i64 E)).setCell ⟨g15, 1, none⟩ (.int .i64 A)) wb.heap.size v2 nums2 ∧ ∀ b, v2.ownBlock = some b → v.ownBlock = some b ∨ w.heap.size ≤ b) := hide_ (fun hE => by
            rcases HW6.out with ⟨h, -, -⟩ | ⟨-, hA, hp, nums2, hwk, ho, hli⟩
            · exact absurd hE h
            · refine ⟨nums2, hwk, hp, ho.upd (((Upd.refl (fun b => b = g15) w6).set ⟨g15, 0, none⟩ (.int .i64 E) (.inl rfl)).set ⟨g15, 1, none⟩ (.int .i64 A) (.inl rfl)) (fun b hb e => ?_), fun b hb => ?_⟩
              · obtain ⟨zs, hz⟩ := ownS_type ho hb
                subst e
                exact absurd (blk_type k15 hz) (by decide)
              · rcases hli b hb with h | h
                · exact HLi.out b h
                · exact .inr (Nat.le_trans (Nat.le_trans HUq.out.size HB5.out.size) h))
          have HEr : Hid (E ≠ 0 → wkT T [t0] V 0 = ([], E, A)) := hide_ (fun hE => by
            rcases HW6.out with ⟨-, h, -⟩ | ⟨h, -⟩
            · exact h
            · exact absurd h hE)
          have HAz : Hid (E = 0 → A = 0) := hide_ (fun hE => by
            rcases HW6.out with ⟨h, -, -⟩ | ⟨-, h, -⟩
            · exact absurd hE h
            · exact h)
          clear HW6 HU6 hu6 k15 k12 k5 l0 l1 lf nb HB6 hHeld
          generalize hw7 : (w6.setCell ⟨g15, 0, none⟩ (.int .i64 E)).setCell ⟨g15, 1, none⟩ (.int .i64 A) = w7 at *
          clear hw7
          have m0 := K15.out.cell 0; have m1 := K15.out.cell 1
          simp at m0 m1
          by_cases hE : E = 0
          · have hA := HAz.out hE
            subst hE hA
            obtain ⟨nums2, hwk, hpp, ho, hli⟩ := HOn.out rfl
            have HWn := hide_ hwk
            have HOwn := hide_ ho
            have HLn := hide_ hli
            clear HOn HEr HAz hwk ho hli
            go_wp2_with fail
            go_roundw
            case rel => exact ⟨v2, p2, k + 1, nums2, rfl, rfl, by go_num, by omega, by omega, HWn, HOwn, HLn, HU7, K5, K12, K15⟩
            case measure => simp [intOf]; omega
          · have hE1 : (E != 0) = true := by simpa using hE
            have HF := hide_ (HEr.out hE)
            have n0 := K12.out.cell 0; have n1 := K12.out.cell 1
            have nf := fun i => K12.out.frozen i
            simp at n0 n1
            have HKz := hide_ (wr2 K12.out (.int .i64 E) (.int .i64 A))
            have HUz := hide_ ((HU7.out.set ⟨w.heap.size + 1, 0, none⟩ (.int .i64 E) (.inr (by show w.heap.size ≤ w.heap.size + 1; omega))).set ⟨w.heap.size + 1, 1, none⟩ (.int .i64 A) (.inr (by show w.heap.size ≤ w.heap.size + 1; omega)))
            go_wp2_with fail
            go_region
            all_goals
              go_wp2
              exact retTTF (v1 := .slice none 0 0) (v2 := .int .i64 ((0 : Nat) : Int)) rfl rfl rfl rfl HKz.out ⟨_, 0, E, A, rfl, hide_ (by have h := HUz.out; exact ⟨h.os, h.tape, h.output, h.size, h.block⟩), hide_ (.inl ⟨hE, HF.out, rfl⟩)⟩
        · have hkl' : ¬ (k : Int) < x.kids := hkl
          have hkl2 : kidsT t x = (kidsT t x).take k := by
            have hl := kidsT_len HOk.out HM.out hrx
            rw [List.take_of_length_le (by omega)]
          have HWf : Hid (WkI T t0 V p1 st nums1) := hide_ (by
            have h := HWq.out
            have hl := kidsT_len HOk.out HM.out hrx
            rw [List.drop_eq_nil_of_le (by omega), List.nil_append] at h
            exact h)
          clear hkl2
          have l0 := KF.out.cell 0; have l1 := KF.out.cell 1
          have n0 := KR.out.cell 0; have n1 := KR.out.cell 1
          have nf := fun i => KR.out.frozen i
          simp at l0 l1 n0 n1
          have HKz := hide_ (wr2 KR.out (.int .i64 0) (.int .i64 0))
          have HUz := hide_ ((HUq.out.set ⟨w.heap.size + 1, 0, none⟩ (.int .i64 0) (.inr (by show w.heap.size ≤ w.heap.size + 1; omega))).set ⟨w.heap.size + 1, 1, none⟩ (.int .i64 0) (.inr (by show w.heap.size ≤ w.heap.size + 1; omega)))
          have HOz : Hid (IOwn ((wq.setCell ⟨w.heap.size + 1, 0, none⟩ (.int .i64 0)).setCell ⟨w.heap.size + 1, 1, none⟩ (.int .i64 0)) wb.heap.size v1 nums1) := hide_ (HOq.out.upd (((Upd.refl (fun b => b = w.heap.size + 1) wq).set ⟨w.heap.size + 1, 0, none⟩ (.int .i64 0) (.inl rfl)).set ⟨w.heap.size + 1, 1, none⟩ (.int .i64 0) (.inl rfl)) (fun b hb e => by
            obtain ⟨zs, hz⟩ := ownS_type HOq.out hb
            subst e
            exact absurd (blk_type KR.out hz) (by decide)))
          go_wp2_with fail
          go_region
          all_goals
            go_wp2
            exact retTTF (v1 := v1) (v2 := .int .i64 (p1 : Int)) rfl rfl rfl rfl HKz.out ⟨v1, p1, 0, 0, rfl, hide_ (by have h := HUz.out; exact ⟨h.os, h.tape, h.output, h.size, h.block⟩), hide_ (.inr ⟨rfl, rfl, hip, nums1, HWf.out, HOz.out.later ((Below.refl _ _).drew), HLi.out⟩)⟩
    · have hM1 : (M != 0) = true := by simpa using hM0
      have HF := hide_ (HBad.out hM0)
      have n0 := KR2.out.cell 0; have n1 := KR2.out.cell 1
      have nf := fun i => KR2.out.frozen i
      simp at n0 n1
      have HKz := hide_ (wr2 KR2.out (.int .i64 M) (.int .i64 (i : Int)))
      have HUz := hide_ ((HU2.out.set ⟨w.heap.size + 1, 0, none⟩ (.int .i64 M) (.inr (by show w.heap.size ≤ w.heap.size + 1; omega))).set ⟨w.heap.size + 1, 1, none⟩ (.int .i64 (i : Int)) (.inr (by show w.heap.size ≤ w.heap.size + 1; omega)))
      go_wp2
      exact retTTF (v1 := .slice none 0 0) (v2 := .int .i64 ((0 : Nat) : Int)) rfl rfl rfl rfl HKz.out ⟨_, 0, M, (i : Int), rfl, HUz, hide_ (.inl ⟨hM0, HF.out, rfl⟩)⟩
end Go.Proofs.YtlfjcihhcphjkaaDoor
/- The document's Types. -/
namespace Go.Proofs.YtlfjcihhcphjkaaDoor
open Go.RowKit
set_option linter.unusedVariables false

/-- What the document's Types answers. -/
def TyTo (A : List Int × Int × Int) (w : World) (e : Ending) (w' : World) : Prop := ∃ v, e = .returned (.tuple #[v, .agg #[.int .i64 A.2.1, .int .i64 A.2.2]]) ∧ Hid (IOwn w' w.heap.size v A.1) ∧ Hid (Below w.heap.size w w')
theorem wk_end {T : List Ty} {t : Int} {V : List Nv} {p : Nat} {nums : List Int} (h : WkI T t V p [] nums) : wkT T [t] V 0 = (nums, 0, 0) := by
  rw [h.ans]
  have e : wkT T [] (V.drop p) p = ([], 0, 0) := by unfold wkT; rfl
  rw [e]
  unfold apT
  simp
set_option maxRecDepth 100000 in
set_option maxHeartbeats 8000000 in
theorem typesR_any (aT : Option Addr) (cT : Nat) (T : List Ty) (aR : Option Addr) (cR : Nat) (R : List Rt) (t : Int) (aV : Option Addr) (cV : Nat) (V : List Nv) (w : World) (hn : T.length ≤ 1000000000) (hm : R.length ≤ 10000000000000) (hV : V.length ≤ 2000000) (hL : Hid (LensT T)) (hT : Hid (TRow w aT T)) (hRr : Hid (RRow w aR R)) (hVr : Hid (VRow w aV V)) (hNv : Hid (∀ x ∈ V, NvOk x)) :
    Calls Tryd.prog 37 #[.agg #[.slice aT T.length cT, .slice aR R.length cR], .int .i64 t, .slice aV V.length cV] w fun e w' => TyTo (tyV T R t V) w e w' := by
  have hB := below2 w (.cells #[.slice aT T.length cT, .slice aR R.length cR] 25) (.cells #[.int .i64 0, .int .i64 0] 42)
  obtain ⟨k1, k2⟩ := blk2 w #[.slice aT T.length cT, .slice aR R.length cR] #[.int .i64 0, .int .i64 0] 25 42
  obtain ⟨w0, hw0⟩ : ∃ wx, wx = (w.alloc (.cells #[.slice aT T.length cT, .slice aR R.length cR] 25)).alloc (.cells #[.int .i64 0, .int .i64 0] 42) := ⟨_, rfl⟩
  rw [← hw0] at hB k1 k2
  have HB0 := hide_ hB
  have K1 := hide_ k1
  have K2 := hide_ k2
  have hz0 : w.heap.size + 1 < w0.heap.size := k2.lt
  have i0 := k1.cell 0; have i1 := k1.cell 1
  simp at i0 i1
  have HCk := hide_ (checkR_any aT cT T aR cR R w0 (by omega) hm hL (hide_ (hT.out.later hB)) (hide_ (hRr.out.later hB)))
  obtain ⟨E, hE⟩ : ∃ E, (chk T R).1 = E := ⟨_, rfl⟩
  obtain ⟨A, hA⟩ : ∃ A, (chk T R).2 = A := ⟨_, rfl⟩
  rw [hE, hA] at HCk
  have HE : Hid (chk T R = (E, A)) := hide_ (by rw [← hE, ← hA])
  clear hB k1 k2 hE hA
  go_enter Tryd.func37, Tryd.ntmps37
  go_upto_region 1 with fail
  rw [← hw0]
  clear hw0
  go_wp2_with fail
  refine HCk.out.mono ?_; rintro e w1 ⟨rfl, hB1⟩
  obtain ⟨w2, hw2⟩ : ∃ wx, wx = w1.alloc (.cells #[.int .i64 E, .int .i64 A] 42) := ⟨_, rfl⟩
  have kf : Blk w2 w1.heap.size 42 [.int .i64 E, .int .i64 A] := by rw [hw2]; exact Blk.newA w1 _ _
  have hb2 : Below w1.heap.size w1 w2 := by rw [hw2]; exact below1 _ _
  have HB2 := hide_ (below_to hB1 hb2)
  have KF := hide_ kf
  have K12 := hide_ (K1.out.later HB2.out)
  have K22 := hide_ (K2.out.later HB2.out)
  have HBw := hide_ (below_to HB0.out HB2.out)
  have hz1 : w0.heap.size ≤ w1.heap.size := hB1.size
  have j0 := kf.cell 0; have j1 := kf.cell 1
  have n0 := K22.out.cell 0; have n1 := K22.out.cell 1
  have nf := fun i => K22.out.frozen i
  simp at j0 j1 n0 n1
  clear i0 i1
  have i0 := K12.out.cell 0; have i1 := K12.out.cell 1
  simp at i0 i1
  clear hB1 hb2 kf HCk
  go_upto_region 2 with fail
  rw [← hw2]
  clear hw2
  by_cases hE0 : E = 0
  · subst hE0
    have HOk := hide_ (okS_of (T := T) (R := R) (by rw [HE.out]))
    by_cases ht : t < 0 ∨ (T.length : Int) ≤ t
    · have HV : Hid (tyV T R t V = ([], 3, 0)) := hide_ (by unfold tyV; rw [HE.out, if_neg (by simp), if_pos ht])
      have HKz := hide_ (wr2 K22.out (.int .i64 3) (.int .i64 0))
      have HBz := hide_ (below_wr2 HBw.out (w.heap.size + 1) (by omega) (.int .i64 3) (.int .i64 0))
      by_cases ht0 : t < 0
      · have hd : decide (t < 0) = true := decide_eq_true ht0
        go_wp2
        exact retTF (x := 3) (y := 0) rfl rfl rfl HKz.out ⟨.slice none 0 0, by rw [HV.out]; rfl, hide_ (by rw [HV.out]; exact IOwn.nil _ _), HBz⟩
      · have hd : decide (t < 0) = false := decide_eq_false ht0
        have hd2 : (T.length : Int) ≤ t := by omega
        go_wp2
        exact retTF (x := 3) (y := 0) rfl rfl rfl HKz.out ⟨.slice none 0 0, by rw [HV.out]; rfl, hide_ (by rw [HV.out]; exact IOwn.nil _ _), HBz⟩
    · have hd : decide (t < 0) = false := decide_eq_false (by omega)
      have hd1 : ¬ t < 0 := by omega
      have hd2 : ¬ (T.length : Int) ≤ t := by omega
      obtain ⟨E2, hE2⟩ : ∃ E, (chkV 1 0 V).1 = E := ⟨_, rfl⟩
      obtain ⟨A2, hA2⟩ : ∃ A, (chkV 1 0 V).2 = A := ⟨_, rfl⟩
      have HCv : Hid (Calls Tryd.prog 24 #[.slice aV V.length cV] w2 fun e w' => e = .returned (.tuple #[.int .i64 E2, .int .i64 A2]) ∧ Below w2.heap.size w2 w') := hide_ (by
        rw [← hE2, ← hA2]
        exact checkN_any aV V.length cV V w2 rfl hV (hide_ (hVr.out.later HBw.out)) hNv)
      have HE2 : Hid (chkV 1 0 V = (E2, A2)) := hide_ (by rw [← hE2, ← hA2])
      clear hE2 hA2
      go_wp2_with fail
      refine HCv.out.mono ?_; rintro e w3 ⟨rfl, hB3⟩
      have HBw3 := hide_ (below_to HBw.out hB3)
      have K13 := hide_ (K12.out.later hB3)
      have K23 := hide_ (K22.out.later hB3)
      have KF3 := hide_ (KF.out.later hB3)
      have hz3 : w2.heap.size ≤ w3.heap.size := hB3.size
      clear i0 i1 j0 j1 n0 n1 nf hB3 HCv
      have n0 := K23.out.cell 0; have n1 := K23.out.cell 1
      have nf := fun i => K23.out.frozen i
      have i0 := K13.out.cell 0; have i1 := K13.out.cell 1
      simp at i0 i1 n0 n1
      by_cases hE20 : E2 = 0
      · subst hE20
        have hcv : (chkV 1 0 V).1 = 0 := by rw [HE2.out]
        have hVl : 0 < V.length := by
          have h1 := chkV_le V 1 0 (by omega) hcv
          omega
        have hTl : 0 < T.length := by omega
        have HWk : Hid (WkI T t V 0 (t :: []) []) := hide_ (WkI.start (by omega) (by omega) hcv)
        obtain ⟨bT, oT, eT, -, -⟩ := hT.out.open hTl
        subst eT
        obtain ⟨bV, oV, eV, -, -⟩ := hVr.out.open hVl
        subst eV
        have HWa := hide_ (walk_any w3 bT oT cT T aR cR R bV oV cV V t hV HOk hNv (hide_ (hT.out.later HBw3.out)) (hide_ (hVr.out.later HBw3.out)) V.length 0 t [] [] (.slice none 0 0) w3 (by omega) (hide_ (Below.refl _ _)) HWk (hide_ (IOwn.nil _ _)))
        have hzw : w.heap.size ≤ w3.heap.size := HBw3.out.size
        clear hcv
        go_wp2_with fail
        refine HWa.out.mono ?_
        rintro e w4 ⟨v2, p, E3, A3, rfl, HU4, HW4⟩
        have hb4 : Below w3.heap.size w3 w4 := HU4.out.below _ (Nat.le_refl _) (fun k hk => by cases hk)
        have HV : Hid (∃ nums, tyV T R t V = (nums, E3, A3) ∧ IOwn w4 w3.heap.size v2 nums) := hide_ (by
          have e1 : tyV T R t V = wkT T [t] V 0 := by unfold tyV; rw [HE.out, if_neg (by simp), if_neg ht, HE2.out, if_neg (by simp)]
          rcases HW4.out with ⟨h1, h2, h3⟩ | ⟨h1, h2, -, nums, h3, h4, -⟩
          · subst h3
            exact ⟨[], by rw [e1, h2], IOwn.nil _ _⟩
          · subst h1 h2
            exact ⟨nums, by rw [e1, wk_end h3], h4⟩)
        obtain ⟨nums, hty, ho⟩ := HV.out
        have HTy := hide_ hty
        have HO4 := hide_ ho
        have K24 := hide_ (K23.out.later hb4)
        have KF4 := hide_ (KF3.out.later hb4)
        have HB4 := hide_ (below_to HBw3.out hb4)
        clear hb4 HV HW4 HU4 hty ho HWa i0 i1 n0 n1 nf
        have j0 := KF4.out.cell 0; have j1 := KF4.out.cell 1
        have jf := fun i => KF4.out.frozen i
        simp at j0 j1
        have kf5 := wr2 KF4.out (.int .i64 E3) (.int .i64 A3)
        have hne : w.heap.size + 1 ≠ w1.heap.size := by omega
        have k25 := (K24.out.other ⟨w1.heap.size, 0, none⟩ (.int .i64 E3) hne).other ⟨w1.heap.size, 1, none⟩ (.int .i64 A3) hne
        have hB5 := below_wr2 HB4.out w1.heap.size (by omega) (.int .i64 E3) (.int .i64 A3)
        have ho5 := HO4.out.upd (((Upd.refl (fun b => b = w1.heap.size) w4).set ⟨w1.heap.size, 0, none⟩ (.int .i64 E3) (.inl rfl)).set ⟨w1.heap.size, 1, none⟩ (.int .i64 A3) (.inl rfl)) (fun b hb e => by
          obtain ⟨zs, hz⟩ := ownS_type HO4.out hb
          subst e
          exact absurd (blk_type KF4.out hz) (by decide))
        obtain ⟨w5, hw5⟩ : ∃ wx, wx = (w4.setCell ⟨w1.heap.size, 0, none⟩ (.int .i64 E3)).setCell ⟨w1.heap.size, 1, none⟩ (.int .i64 A3) := ⟨_, rfl⟩
        rw [← hw5] at kf5 k25 hB5 ho5
        have HKz := hide_ (wr2 k25 (.int .i64 E3) (.int .i64 A3))
        have HBz := hide_ (below_wr2 hB5 (w.heap.size + 1) (by omega) (.int .i64 E3) (.int .i64 A3))
        have HOz := hide_ (ho5.upd (((Upd.refl (fun b => b = w.heap.size + 1) w5).set ⟨w.heap.size + 1, 0, none⟩ (.int .i64 E3) (.inl rfl)).set ⟨w.heap.size + 1, 1, none⟩ (.int .i64 A3) (.inl rfl)) (fun b hb e => by
          obtain ⟨zs, hz⟩ := ownS_type ho5 hb
          subst e
          exact absurd (blk_type k25 hz) (by decide)))
        have m0 := kf5.cell 0; have m1 := kf5.cell 1
        have n0 := k25.cell 0; have n1 := k25.cell 1
        have nf := fun i => k25.frozen i
        simp at m0 m1 n0 n1
        clear kf5 k25 hB5 ho5 hne
        go_upto_region 10 with fail
        rw [← hw5]
        clear hw5 j0 j1 jf
        go_region
        all_goals
          go_wp2
          exact retTF (x := E3) (y := A3) rfl rfl rfl HKz.out ⟨v2, by rw [HTy.out]; rfl, hide_ (by rw [HTy.out]; exact (HOz.out.later ((Below.refl _ _).drew)).base hzw), hide_ (HBz.out.drew)⟩
      · have hE21 : (E2 != 0) = true := by simpa using hE20
        have HV : Hid (tyV T R t V = ([], E2, A2)) := hide_ (by unfold tyV; rw [HE.out, if_neg (by simp), if_neg ht, HE2.out, if_pos (by simpa using hE20)])
        have HKz := hide_ (wr2 K23.out (.int .i64 E2) (.int .i64 A2))
        have HBz := hide_ (below_wr2 HBw3.out (w.heap.size + 1) (by omega) (.int .i64 E2) (.int .i64 A2))
        go_wp2
        exact retTF (x := E2) (y := A2) rfl rfl rfl HKz.out ⟨.slice none 0 0, by rw [HV.out]; rfl, hide_ (by rw [HV.out]; exact IOwn.nil _ _), HBz⟩
  · have hE1 : (E != 0) = true := by simpa using hE0
    have HV : Hid (tyV T R t V = ([], E, A)) := hide_ (by unfold tyV; rw [HE.out, if_pos (by simpa using hE0)])
    have HKz := hide_ (wr2 K22.out (.int .i64 E) (.int .i64 A))
    have HBz := hide_ (below_wr2 HBw.out (w.heap.size + 1) (by omega) (.int .i64 E) (.int .i64 A))
    go_wp2_with fail
    go_region
    all_goals
      go_wp2
      exact retTF (x := E) (y := A) rfl rfl rfl HKz.out ⟨.slice none 0 0, by rw [HV.out]; rfl, hide_ (by rw [HV.out]; exact IOwn.nil _ _), hide_ (HBz.out.drew)⟩
end Go.Proofs.YtlfjcihhcphjkaaDoor
/- Plain: what Some makes is of the type, and the picks that stand in it lead to it again. -/
namespace Go.Proofs.YtlfjcihhcphjkaaDoor
set_option linter.unusedVariables false

/-- What is made so far, as the walk and value.Check see it. -/
structure PkI (T : List Ty) (t : Int) (p : List Int) (st : List Int) (V : List Nv) (nums : List Int) : Prop where
  wk : ∀ rest, wkT T [t] (V ++ rest) 0 = apT nums (wkT T st rest V.length)
  ck : ∀ rest, chkV 1 0 (V ++ rest) = chkV (st.length : Int) (V.length : Int) rest
  len : nums.length = V.length
  pk : ∀ (i : Nat) (s : Int), nums[i]? = some s → V[i]? = some (pickP (T.getD s.toNat ty0) (pickA p i))
  hd : nums.head? = some t ∨ (nums = [] ∧ st = [t])
theorem apT_nil {r : List Int × Int × Int} (h : r.2.1 = 0 → r.2.2 = 0) : apT [] r = r := by
  unfold apT
  split
  · rfl
  · rename_i h1
    have h1 : r.2.1 = 0 := by simpa using h1
    obtain ⟨a, b, c⟩ := r
    simp only at h h1
    subst h1
    rw [h rfl]
    simp
theorem PkI.start {T : List Ty} {t : Int} {p : List Int} : PkI T t p [t] [] [] := by
  refine ⟨fun rest => ?_, fun rest => by simp, rfl, fun i s h => by simp at h, .inr ⟨rfl, rfl⟩⟩
  rw [List.nil_append]
  exact (apT_nil (fun h => wkT_ok T rest [t] 0 h)).symm
theorem PkI.step {T : List Ty} {R : List Rt} {t : Int} {p : List Int} {s : Int} {st : List Int} {V : List Nv} {nums : List Int} (h : PkI T t p (s :: st) V nums) (hS : OkS T R) (hs0 : 0 ≤ s) (hs1 : s < T.length)
    (hf : misP (T.getD s.toNat ty0) (pickP (T.getD s.toNat ty0) (pickA p V.length)) = 0) (hr : rightV (pickP (T.getD s.toNat ty0) (pickA p V.length)) = true) :
    PkI T t p (kidsT (T.getD s.toNat ty0) (pickP (T.getD s.toNat ty0) (pickA p V.length)) ++ st) (V ++ [pickP (T.getD s.toNat ty0) (pickA p V.length)]) (nums ++ [s]) := by
  have hok := hS.ty s.toNat (by omega)
  rw [show ((s.toNat : Nat) : Int) = s by omega] at hok
  have hl := kidsT_len hok hf hr
  obtain ⟨x, hx⟩ : ∃ x, pickP (T.getD s.toNat ty0) (pickA p V.length) = x := ⟨_, rfl⟩
  rw [hx] at hf hr hl ⊢
  refine ⟨fun rest => ?_, fun rest => ?_, by simp [h.len], fun i s' hi => ?_, ?_⟩
  · have h1 := h.wk (x :: rest)
    rw [List.append_assoc, List.singleton_append, h1, wkT, if_neg (by simpa using hf), List.length_append, List.length_singleton]
    generalize wkT T (kidsT (T.getD s.toNat ty0) x ++ st) rest (V.length + 1) = q
    unfold apT
    by_cases hz : q.2.1 = 0
    · simp only [hz, ne_eq, not_true_eq_false, if_false]
      simp
    · simp only [hz, ne_eq, not_false_eq_true, if_true]
  · have h1 := h.ck (x :: rest)
    rw [List.append_assoc, List.singleton_append, h1, chkV, if_neg (by simp [hr]; omega)]
    congr 1
    · rw [List.length_append, List.length_cons]
      push_cast
      omega
    · rw [List.length_append, List.length_singleton]
      push_cast
      rfl
  · rcases Nat.lt_or_ge i nums.length with hlt | hge
    · rw [List.getElem?_append_left hlt] at hi
      rw [List.getElem?_append_left (by rw [← h.len]; exact hlt)]
      exact h.pk i s' hi
    · rw [List.getElem?_append_right hge] at hi
      have hi0 : i - nums.length = 0 := by
        have := (List.getElem?_eq_some_iff.1 hi).1
        simp at this
        omega
      rw [hi0] at hi
      simp at hi
      subst hi
      obtain rfl : i = V.length := by have := h.len; omega
      rw [List.getElem?_append_right (Nat.le_refl _), Nat.sub_self, hx]
      rfl
  · rcases h.hd with h1 | ⟨h1, h2⟩
    · left
      rw [List.head?_append, h1]
      rfl
    · injection h2 with h2 _
      left
      rw [h1, h2]
      rfl
theorem mk_all {T : List Ty} {R : List Rt} {t : Int} {p : List Int} (hS : OkS T R) : ∀ (f : Nat) (st : List Int) (V W : List Nv) (nums : List Int), MkI T t p st V → PkI T t p st V nums → mkT T p f st V = some W →
    ∃ nums2, PkI T t p [] W nums2 ∧ (∃ r, nums2 = nums ++ r) ∧ (∃ r, W = V ++ r) ∧ ∀ q, (∀ (i : Nat) (s : Int) (x : Nv), V.length ≤ i → nums2[i]? = some s → W[i]? = some x → pickP (T.getD s.toNat ty0) (pickA q i) = x) → mkT T q f st V = some W
  | 0, _, _, _, _, _, _, h => by simp [mkT] at h
  | f + 1, [], V, W, nums, hM, hP, h => by
    simp [mkT] at h
    subst h
    exact ⟨nums, hP, ⟨[], by simp⟩, ⟨[], by simp⟩, fun q _ => by simp [mkT]⟩
  | f + 1, s :: st, V, W, nums, hM, hP, h => by
    obtain ⟨hs0, hs1, hf, hr, -, hgo⟩ := hM.next hS
    rw [mkT] at h
    by_cases hg : (V.length : Int) + (st.length + 1) + (pickP (T.getD s.toNat ty0) (pickA p V.length)).kids > 1048576
    · rw [if_pos hg] at h
      cases h
    · rw [if_neg hg] at h
      obtain ⟨nums2, h1, ⟨r1, hr1⟩, ⟨r2, hr2⟩, h4⟩ := mk_all hS f _ _ W _ (hgo hg) (hP.step hS hs0 hs1 hf hr) h
      refine ⟨nums2, h1, ⟨s :: r1, by rw [hr1]; simp⟩, ⟨pickP (T.getD s.toNat ty0) (pickA p V.length) :: r2, by rw [hr2]; simp⟩, fun q hq => ?_⟩
      have hx : pickP (T.getD s.toNat ty0) (pickA q V.length) = pickP (T.getD s.toNat ty0) (pickA p V.length) := hq V.length s _ (Nat.le_refl _) (by rw [hr1, List.append_assoc, List.getElem?_append_right (by rw [hP.len]; exact Nat.le_refl _), hP.len]; simp) (by rw [hr2, List.append_assoc, List.getElem?_append_right (Nat.le_refl _)]; simp)
      rw [mkT, hx, if_neg hg]
      exact h4 q (fun i s' x hi => hq i s' x (by simp at hi; omega))
/-- The pick that stands in a node. -/
def pickOf (t : Ty) (x : Nv) : Int :=
  if t.k = 1 ∨ t.k = 2 ∨ t.k = 3 then IntKind.i64.wrap x.n else
  if t.k = 5 ∨ t.k = 6 then x.kids else
  if t.k = 7 then (((armI t.ps x.n).getD 0 : Nat) : Int) else 0
theorem pickOf_back {t : Ty} {i q : Int} (hok : tyOk t i = true) (hq : 0 ≤ q ∧ q < 18446744073709551616) : pickP t (pickOf t (pickP t q) % 18446744073709551616) = pickP t q := by
  obtain ⟨hm, hr, hv⟩ := pick_fits hok hq
  have hk := tyOk_kind hok
  have hn := nOk_of hok
  have hkd := rightV_kids hr
  obtain ⟨x, hx⟩ : ∃ x, pickP t q = x := ⟨_, rfl⟩
  have hw : IntKind.i64.wrap x.n % 18446744073709551616 = x.n := by
    have h1 := hv.1; have h2 := hv.2
    rw [hx] at h1 h2
    rw [IntKind.wrap_i64]
    omega
  rw [hx] at hkd ⊢
  rcases hk with h | h | h | h | h | h | h | h
  · have e : pickOf t x = IntKind.i64.wrap x.n := by simp [pickOf, h]
    rw [e, hw, ← hx]
    simp only [pickP, h]
    simp
  · have e : pickOf t x = IntKind.i64.wrap x.n := by simp [pickOf, h]
    rw [e, hw, ← hx]
    simp only [pickP, h]
    simp
  · have e : pickOf t x = IntKind.i64.wrap x.n := by simp [pickOf, h]
    rw [e, hw, ← hx]
    simp only [pickP, h]
    simp
  · rw [← hx]
    simp [pickP, h]
  · have e : pickOf t x = x.kids := by simp [pickOf, h]
    have e2 : x.kids = q % (t.n + 1) := by rw [← hx]; simp [pickP, h]
    have h0 : 0 ≤ q % (t.n + 1) := Int.emod_nonneg _ (by omega)
    have h1 : q % (t.n + 1) < t.n + 1 := Int.emod_lt_of_pos _ (by omega)
    rw [e, ← hx]
    simp only [pickP, h]
    simp
    rw [Int.emod_eq_of_lt (b := 18446744073709551616) h0 (by omega), Int.emod_eq_of_lt h0 h1]
  · have e : pickOf t x = x.kids := by simp [pickOf, h]
    have e2 : x.kids = q % 2 := by rw [← hx]; simp [pickP, h]
    rw [e, ← hx]
    simp only [pickP, h]
    simp
  · have e1 : x = ⟨6, (t.ps.getD (q % t.ps.length).toNat pt0).tag, 1⟩ := by rw [← hx]; simp [pickP, h]
    have hpos := tyOk_some' hok (.inl h)
    have hlt : (q % t.ps.length).toNat < t.ps.length := by
      have h0 : 0 ≤ q % (t.ps.length : Int) := Int.emod_nonneg _ (by omega)
      have h1 : q % (t.ps.length : Int) < t.ps.length := Int.emod_lt_of_pos _ (by omega)
      omega
    rw [hx] at hm
    obtain ⟨m, p, ha, hp, htag⟩ := misP_arm hm h
    have hml := (List.getElem?_eq_some_iff.1 hp).1
    have hpl := tyOk_len hok
    have e : pickOf t x = (m : Int) := by simp [pickOf, h, ha]
    have e3 : (m : Int) % 18446744073709551616 = m := Int.emod_eq_of_lt (by omega) (by omega)
    have e4 : (m : Int) % (t.ps.length : Int) = m := Int.emod_eq_of_lt (by omega) (by omega)
    rw [e, e3]
    have e5 : pickP t (m : Int) = ⟨6, p.tag, 1⟩ := by
      simp only [pickP, h]
      simp [e4, List.getD, hp]
    rw [e5, htag, e1]
  · rw [← hx]
    simp [pickP, h]
/-- What Some makes. -/
theorem some_back {T : List Ty} {R : List Rt} {t : Int} {p : List Int} {V : List Nv} (hS : OkS T R) (h0 : 0 ≤ t) (h1 : t < T.length) (hm : mkT T p 1048578 [t] [] = some V) :
    ∃ nums, wkT T [t] V 0 = (nums, 0, 0) ∧ chkV 1 0 V = (0, 0) ∧ nums.length = V.length ∧ (V ≠ [] → nums.head? = some t) ∧ (∀ s ∈ nums, 0 ≤ s ∧ s < T.length) ∧
      ∀ q : List Int, q.length = V.length → (∀ (i : Nat) (s : Int) (x : Nv), nums[i]? = some s → V[i]? = some x → q[i]? = some (pickOf (T.getD s.toNat ty0) x)) → mkT T q 1048578 [t] [] = some V := by
  obtain ⟨nums, hP, -, -, h4⟩ := mk_all hS 1048578 [t] [] V [] (MkI.start h0 h1) PkI.start hm
  have hw := hP.wk []
  have hc := hP.ck []
  rw [List.append_nil] at hw hc
  have e : wkT T [] [] V.length = ([], 0, 0) := by unfold wkT; rfl
  rw [e] at hw
  have hw' : wkT T [t] V 0 = (nums, 0, 0) := by rw [hw]; unfold apT; simp
  have hc' : chkV 1 0 V = (0, 0) := by rw [hc]; simp [chkV]
  have hin : ∀ s ∈ nums, 0 ≤ s ∧ s < T.length := by
    have key : ∀ (k : Nat), k ≤ V.length → ∃ st ns, WkI T t V k st ns ∧ ∀ s ∈ ns, 0 ≤ s ∧ s < T.length := fun k => by
      induction k with
      | zero => exact fun _ => ⟨[t], [], WkI.start h0 h1 (by rw [hc']), fun s hs => by cases hs⟩
      | succ k ih =>
        intro hk
        obtain ⟨st, ns, hwk, hns⟩ := ih (by omega)
        obtain ⟨s, r, rfl, a0, a1, -, hbad, hgood⟩ := hwk.next hS (List.getElem?_eq_getElem (by omega : k < V.length))
        by_cases hm0 : misP (T.getD s.toNat ty0) (V[k]'(by omega)) = 0
        · refine ⟨_, _, hgood hm0, fun s' hs' => ?_⟩
          rcases List.mem_append.1 hs' with hs' | hs'
          · exact hns s' hs'
          · simp at hs'; subst hs'; exact ⟨a0, a1⟩
        · have := hbad hm0
          rw [hw'] at this
          simp at this
          exact absurd this.2.1.symm hm0
    obtain ⟨st, ns, hwk, hns⟩ := key V.length (Nat.le_refl _)
    have hd := (hwk.done).2
    rw [hw'] at hd
    have : nums = ns := (Prod.mk.inj hd).1
    rw [this]
    exact hns
  refine ⟨nums, hw', hc', hP.len, fun hne => ?_, hin, fun q hql hq => h4 q (fun i s x _ hs hx => ?_)⟩
  · rcases hP.hd with h | ⟨h, -⟩
    · exact h
    · have := hP.len
      rw [h] at this
      exact absurd (List.eq_nil_of_length_eq_zero this.symm) hne
  · have hi := hq i s x hs hx
    have hpk := hP.pk i s hs
    rw [hx] at hpk
    injection hpk with hpk
    have hsT := hin s (List.mem_of_getElem? hs)
    have hok := hS.ty s.toNat (by omega)
    rw [show ((s.toNat : Nat) : Int) = s by omega] at hok
    have hlt := (List.getElem?_eq_some_iff.1 hi).1
    have e2 : pickA q i = pickOf (T.getD s.toNat ty0) x % 18446744073709551616 := by
      unfold pickA
      rw [if_pos hlt]
      simp [List.getD, hi]
    rw [e2, hpk]
    exact pickOf_back hok (pickA_in p i)
end Go.Proofs.YtlfjcihhcphjkaaDoor
/- The document's Types of layer 11; Picks. -/
namespace Go.Proofs.YtlfjcihhcphjkaaDoor
open Go.RowKit
set_option linter.unusedVariables false

set_option maxRecDepth 100000 in
set_option maxHeartbeats 4000000 in
theorem types11_any (aT : Option Addr) (cT : Nat) (T : List Ty) (aR : Option Addr) (cR : Nat) (R : List Rt) (t : Int) (aV : Option Addr) (cV : Nat) (V : List Nv) (w : World) (hn : T.length ≤ 1000000000) (hm : R.length ≤ 10000000000000) (hV : V.length ≤ 2000000) (hL : Hid (LensT T)) (hT : Hid (TRow w aT T)) (hRr : Hid (RRow w aR R)) (hVr : Hid (VRow w aV V)) (hNv : Hid (∀ x ∈ V, NvOk x)) :
    Calls Tryd.prog 18 #[.agg #[.slice aT T.length cT, .slice aR R.length cR], .int .i64 t, .slice aV V.length cV] w fun e w' => TyTo (tyV T R t V) w e w' := by
  have hB := below2 w (.cells #[.slice aT T.length cT, .slice aR R.length cR] 25) (.cells #[.int .i64 0, .int .i64 0] 42)
  obtain ⟨k1, k2⟩ := blk2 w #[.slice aT T.length cT, .slice aR R.length cR] #[.int .i64 0, .int .i64 0] 25 42
  obtain ⟨w0, hw0⟩ : ∃ wx, wx = (w.alloc (.cells #[.slice aT T.length cT, .slice aR R.length cR] 25)).alloc (.cells #[.int .i64 0, .int .i64 0] 42) := ⟨_, rfl⟩
  rw [← hw0] at hB k1 k2
  have HB0 := hide_ hB
  have K2 := hide_ k2
  have hz0 : w.heap.size + 1 < w0.heap.size := k2.lt
  have i0 := k1.cell 0; have i1 := k1.cell 1
  simp at i0 i1
  have HTy := hide_ (typesR_any aT cT T aR cR R t aV cV V w0 hn hm hV hL (hide_ (hT.out.later hB)) (hide_ (hRr.out.later hB)) (hide_ (hVr.out.later hB)) hNv)
  generalize tyV T R t V = A at *
  obtain ⟨nums, E, P⟩ := A
  clear hB k1 k2
  go_enter Tryd.func18, Tryd.ntmps18
  go_upto_region 1 with fail
  rw [← hw0]
  clear hw0
  go_wp2_with fail
  refine HTy.out.mono ?_
  rintro e w1 ⟨v, rfl, HO, HB1⟩
  simp only at HO
  have k3 := K2.out.later HB1.out
  have n0 := k3.cell 0; have n1 := k3.cell 1
  have nf := fun i => k3.frozen i
  simp at n0 n1
  have HKz := hide_ (wr2 k3 (.int .i64 E) (.int .i64 P))
  have HBz := hide_ (below_wr2 (below_to HB0.out HB1.out) (w.heap.size + 1) (by omega) (.int .i64 E) (.int .i64 P))
  have HOz := hide_ (HO.out.upd (((Upd.refl (fun b => b = w.heap.size + 1) w1).set ⟨w.heap.size + 1, 0, none⟩ (.int .i64 E) (.inl rfl)).set ⟨w.heap.size + 1, 1, none⟩ (.int .i64 P) (.inl rfl)) (fun b hb e => by
    obtain ⟨zs, hz⟩ := ownS_type HO.out hb
    subst e
    exact absurd (blk_type k3 hz) (by decide)))
  clear k3
  go_wp2
  exact retTF (x := E) (y := P) rfl rfl rfl HKz.out ⟨v, rfl, hide_ (HOz.out.base (by omega)), HBz⟩
/-- The picks that stand in a value. -/
def picksL (T : List Ty) (nums : List Int) (V : List Nv) : List Int := List.zipWith (fun s x => pickOf (T.getD s.toNat ty0) x) nums V
theorem picksL_at {T : List Ty} {nums : List Int} {V : List Nv} {i : Nat} {s : Int} {x : Nv} (hs : nums[i]? = some s) (hx : V[i]? = some x) : (picksL T nums V)[i]? = some (pickOf (T.getD s.toNat ty0) x) := by
  unfold picksL
  rw [List.getElem?_zipWith, hs, hx]
theorem picksL_len {T : List Ty} {nums : List Int} {V : List Nv} (h : nums.length = V.length) : (picksL T nums V).length = V.length := by
  unfold picksL
  rw [List.length_zipWith, h]
  omega
end Go.Proofs.YtlfjcihhcphjkaaDoor
/- TypingKids: its walk. -/
namespace Go.Proofs.YtlfjcihhcphjkaaDoor
open Go.RowKit
set_option linter.unusedVariables false

theorem someT_mk {T : List Ty} {R : List Rt} {t : Int} {p : List Int} {V : List Nv} (hS : OkS T R) (h0 : 0 ≤ t) (h1 : t < T.length) (h : someT T R t p = (V, 0)) : mkT T p 1048578 [t] [] = some V := by
  unfold someT at h
  rw [hS.chk, if_neg (by simp), if_neg (by omega)] at h
  cases hm : mkT T p 1048578 [t] [] with
  | none => rw [hm] at h; simp at h
  | some v => rw [hm] at h; simp at h; rw [h]
theorem vrow_drop {w : World} {b o : Nat} {l : List Nv} (h : VRow w (some ⟨b, o, none⟩) l) (m : Nat) : VRow w (some ⟨b, o + m * 3, none⟩) (l.drop m) := by
  rcases h with h | ⟨b', o', e, hb, hc⟩
  · left; rw [h]; simp
  · injection e with e
    injection e with e1 e2 _
    subst e1 e2
    refine .inr ⟨b, o + m * 3, rfl, hb, fun i x hx j hj => ?_⟩
    rw [List.getElem?_drop] at hx
    have h := hc (m + i) x hx j hj
    rw [show o + (m + i) * 3 + j = o + m * 3 + i * 3 + j by omega] at h
    exact h
/-- TypingFirst's memory: the schema's box, its rows, the nodes. -/
structure FiS (w w5 wr : World) (bs : Nat) (vT vR vN : Value) (Q : List (Ty × Value)) (Rc : List Rt) (W : List Nv) : Prop where
  sch : Blk wr bs 25 [vT, vR]
  ty : TOwn wr w.heap.size vT Q
  rt : ROwn wr w.heap.size vR Rc
  nod : NOwn wr w5.heap.size vN W
  bel : Below w.heap.size w wr
theorem FiS.later {w w5 wr w' : World} {bs : Nat} {vT vR vN : Value} {Q : List (Ty × Value)} {Rc : List Rt} {W : List Nv} (h : FiS w w5 wr bs vT vR vN Q Rc W) (hB : Below wr.heap.size wr w') : FiS w w5 w' bs vT vR vN Q Rc W :=
  ⟨h.sch.later hB, h.ty.later hB, h.rt.later hB, h.nod.later hB, below_to h.bel hB⟩
/-- A store into a node of the list. -/
theorem FiS.set {w w5 wr w' : World} {bs g : Nat} {vT vR : Value} {n c : Nat} {Q : List (Ty × Value)} {Rc : List Rt} {W W' : List Nv} (h : FiS w w5 wr bs vT vR (.slice (some ⟨g, 0, none⟩) n c) Q Rc W) (h5 : w.heap.size ≤ w5.heap.size) (hW : 0 < W.length) (hu : Upd (fun k => k = g) wr w') (hN : NOwn w' w5.heap.size (.slice (some ⟨g, 0, none⟩) n c) W') : FiS w w5 w' bs vT vR (.slice (some ⟨g, 0, none⟩) n c) Q Rc W' := by
  obtain ⟨zs, hz⟩ := ownS_type h.nod (k := g) rfl
  have hg := (World.ownsRow.lt h.nod g rfl).1
  refine ⟨h.sch.upd hu (fun e => ?_), h.ty.updN hu hz (by omega) (by decide) (by decide), h.rt.updN hu hz (by decide), hN, h.bel.trans (hu.below _ h.bel.size (fun k e => by omega))⟩
  exact absurd (blk_type h.sch (e ▸ hz)) (by decide)
set_option maxRecDepth 100000 in
set_option maxHeartbeats 16000000 in
theorem kids_any (aT : Option Addr) (cT : Nat) (T : List Ty) (aR : Option Addr) (cR : Nat) (R : List Rt) (t : Int) (aP : Option Addr) (cP : Nat) (p : List Int) (at' : Int) (x : Nv) (w : World) (hn : T.length ≤ 1000000000000000) (hm : R.length ≤ 1000000000000000) (hcR : R.length ≤ cR) (hnil : aR = none → cR = 0) (hl : Hid (LensT T)) (hT : Hid (TRow w aT T)) (hRr : Hid (RRow w aR R)) (hpn : p.length ≤ 1000000000000000) (hpc : p.length ≤ cP) (hpnil : aP = none → cP = 0) (hPr : Hid (Row .i64 w aP p)) (hx : NvOk x) (ht : Hid (Tab w)) :
    Calls Tryd.prog 5 #[.agg #[.slice aT T.length cT, .slice aR R.length cR], .int .i64 t, .slice aP p.length cP, .int .i64 at', .agg #[.int .i64 x.k, .int .u64 x.n, .int .i64 x.kids]] w fun e w' => e = .returned (.bool true) ∧ Below w.heap.size w w' := by
  have hB2 := below2 w (.cells #[.slice aT T.length cT, .slice aR R.length cR] 25) (.cells #[.int .i64 x.k, .int .u64 x.n, .int .i64 x.kids] 49)
  obtain ⟨k1, k2⟩ := blk2 w #[.slice aT T.length cT, .slice aR R.length cR] #[.int .i64 x.k, .int .u64 x.n, .int .i64 x.kids] 25 49
  obtain ⟨w2, hw2⟩ : ∃ wx, wx = (w.alloc (.cells #[.slice aT T.length cT, .slice aR R.length cR] 25)).alloc (.cells #[.int .i64 x.k, .int .u64 x.n, .int .i64 x.kids] 49) := ⟨_, rfl⟩
  rw [← hw2] at hB2 k1 k2
  have HZ2 : Hid (w.heap.size + 2 ≤ w2.heap.size) := hide_ (by rw [hw2]; simp)
  have K1 := hide_ k1
  have K2 := hide_ k2
  have HB2 := hide_ hB2
  have HAw := hide_ (awake_any w2 (hide_ (ht.out.later hB2)))
  clear k1 k2 hB2
  go_enter Tryd.func5, Tryd.ntmps5
  go_upto_region 1 with fail
  rw [← hw2]
  clear hw2
  go_wp2_with fail
  refine HAw.out.mono ?_
  rintro e w3 ⟨rfl, hB3⟩
  have HB3 := hide_ (below_to HB2.out hB3)
  have K13 := hide_ (K1.out.later hB3)
  have K23 := hide_ (K2.out.later hB3)
  have hz3 : w.heap.size + 2 ≤ w3.heap.size := Nat.le_trans HZ2.out hB3.size
  have HMd := hide_ (made_any aT cT T aR cR R t aP cP p w w3 hn hm hcR hnil hl HB3 hT (hide_ (hRr.out.later HB3.out)) hpn hpc hpnil (hide_ (hPr.out.later HB3.out)))
  have i0 := K13.out.cell 0; have i1 := K13.out.cell 1
  simp at i0 i1
  clear hB3 HAw K1 K2
  go_wp2_with fail
  refine HMd.out.mono ?_
  rintro e w4 ⟨a, cap, ar, cr, Q, t', v', ok, rfl, HT4, HQ, HR4, HOk, HB4⟩
  have hlc : (cutT T).length ≤ 120 := by simp [cutT]; omega
  have hlr : (R.take 260).length ≤ 260 := by simp; omega
  have HLs := hide_ (cutT_lens T)
  generalize cutT T = U at *
  generalize R.take 260 = Rc at *
  have HB4x := hide_ (below_to HB3.out HB4.out)
  obtain ⟨w5, hw5⟩ : ∃ wx, wx = w4.alloc (.cells #[.slice a U.length cap, .slice ar Rc.length cr] 25) := ⟨_, rfl⟩
  have b5 : Below w4.heap.size w4 w5 := by rw [hw5]; exact below1 _ _
  have k5 : Blk w5 w4.heap.size 25 [.slice a U.length cap, .slice ar Rc.length cr] := by rw [hw5]; exact Blk.newA w4 _ _
  have K5 := hide_ k5
  have HB5 := hide_ (below_to HB4x.out b5)
  have KN5 := hide_ ((K23.out.later HB4.out).later b5)
  have HT5 := hide_ (HT4.out.later b5)
  have HR5 := hide_ (HR4.out.later b5)
  have hz5 : w.heap.size + 2 ≤ w5.heap.size := Nat.le_trans hz3 (Nat.le_trans HB4.out.size b5.size)
  cases ok with
  | false =>
    go_upto_region 4 with fail
    rw [← hw5]
    clear hw5
    go_wp2
    go_ret
    exact ⟨rfl, HB5.out⟩
  | true =>
    obtain ⟨hS, ht0, ht1, p', hIp, hpl⟩ := HOk.out rfl
    have HS := hide_ hS
    obtain ⟨ap, cp, hv', hrp, -⟩ := own_open (hIp.later b5) rfl
    subst hv'
    have HSm := hide_ (some_any a cap U ar cr Rc t' ap p'.length cp p' w5 (by omega) (by omega) HLs (hide_ (town_row HT5.out HQ.out)) (hide_ (rown_row HR5.out)) (hide_ rfl) (hide_ hrp) (hide_ (ht.out.later HB5.out)))
    have HIp5 := hide_ (hIp.later b5)
    clear i0 i1 b5 k5 hIp hrp HOk hS
    have i0 := K5.out.cell 0; have i1 := K5.out.cell 1
    simp at i0 i1
    go_upto_region 4 with fail
    rw [← hw5]
    clear hw5
    go_wp2_with fail
    refine HSm.out.mono ?_
    rintro e w6 ⟨v6, rfl, HN6, HB6⟩
    have HB6x := hide_ (below_to HB5.out HB6.out)
    rcases someT_ok (p := p') HS.out ht0 ht1 with h5 | ⟨V, hV, hV0, hV1, hVk⟩
    · have h52 : (someT U Rc t' p').2 = 5 := by rw [h5]
      simp only [h52]
      go_wp2_with (go_at_call 22; refine (num_any _ _).mono ?_; rintro e w' ⟨rfl, rfl⟩)
      all_goals
        go_ret
        exact ⟨rfl, HB6x.out⟩
    · have h02 : (someT U Rc t' p').2 = 0 := by rw [hV]
      have HSv := hide_ hV
      rw [hV] at HN6
      simp only at HN6
      simp only [h02]
      obtain ⟨g, c6, ys, hv6, hbg, hnc, -, -, -, -⟩ := ownS_blk HN6.out hV0
      subst hv6
      have hVz : ((V.length : Int) == 0) = false := by simp; intro h; rw [h] at hV0; simp at hV0
      have hVz2 : (V.length == 0) = false := by simp; intro h; rw [h] at hV0; simp at hV0
      have HF6 : Hid (FiS w w5 w6 w4.heap.size (.slice a U.length cap) (.slice ar Rc.length cr) (.slice (some ⟨g, 0, none⟩) V.length c6) Q Rc V) := hide_ ⟨K5.out.later HB6.out, HT5.out.later HB6.out, HR5.out.later HB6.out, HN6.out, HB6x.out⟩
      have KN6 := hide_ (KN5.out.later HB6.out)
      have HIp6 := hide_ (HIp5.out.later HB6.out)
      clear HT5 HR5 HSm HT4 HR4 HMd i0 i1
      go_wp2_with (go_at_call 22; refine (num_any _ _).mono ?_; rintro e w' ⟨rfl, rfl⟩)
      refine (rest_any at' V.length _ (by omega) (by omega)).mono ?_
      rintro e w' ⟨r, rfl, hr0, hr1, rfl⟩
      obtain ⟨k, rfl⟩ := Int.eq_ofNat_of_zero_le hr0
      have hk : k < V.length := by omega
      have hzx : V[k]? = some (V[k]'hk) := List.getElem?_eq_getElem hk
      obtain ⟨z0, z1, z2⟩ := HF6.out.nod.at3 hzx
      have hzo := hVk _ (List.getElem_mem hk)
      generalize V[k]'hk = z at *
      have n0 := KN6.out.cell 0; have n1 := KN6.out.cell 1; have n2 := KN6.out.cell 2
      have nf := fun i => KN6.out.frozen i
      simp at n0 n1 n2
      have hgq : g ≠ w.heap.size + 1 := by omega
      obtain ⟨w7, hw7⟩ : ∃ wx, wx = w6.setCell ⟨w.heap.size + 1, 2, none⟩ (.int .i64 z.kids) := ⟨_, rfl⟩
      have u7 : Upd (fun k => k = w.heap.size + 1) w6 w7 := by rw [hw7]; exact (Upd.refl _ w6).set _ _ (.inl rfl)
      have KN7 : Hid (Blk w7 (w.heap.size + 1) 49 [.int .i64 x.k, .int .u64 x.n, .int .i64 z.kids]) := hide_ (by rw [hw7]; have h := KN6.out.set 2 (.int .i64 z.kids); simpa using h)
      have HF7 : Hid (FiS w w5 w7 w4.heap.size (.slice a U.length cap) (.slice ar Rc.length cr) (.slice (some ⟨g, 0, none⟩) V.length c6) Q Rc V) := hide_ ⟨HF6.out.sch.upd u7 (fun e => absurd (blk_type HF6.out.sch (e ▸ KN6.out)) (by decide)), HF6.out.ty.updN u7 KN6.out (by omega) (by decide) (by decide), HF6.out.rt.updN u7 KN6.out (by decide), HF6.out.nod.upd u7 (fun k hk e => by have := own_is hk; omega), HF6.out.bel.trans (u7.below _ HF6.out.bel.size (fun k e => by omega))⟩
      obtain ⟨y0, y1, y2⟩ := HF7.out.nod.at3 hzx
      have yf := fun i => HF7.out.nod.fr i
      have m0 := KN7.out.cell 0; have m1 := KN7.out.cell 1; have m2 := KN7.out.cell 2
      simp at m0 m1 m2
      obtain ⟨w8, hw8⟩ : ∃ wx, wx = ((w7.setCell ⟨g, k * 3, none⟩ (.int .i64 x.k)).setCell ⟨g, k * 3 + 1, none⟩ (.int .u64 x.n)).setCell ⟨g, k * 3 + 2, none⟩ (.int .i64 z.kids) := ⟨_, rfl⟩
      have u8 : Upd (fun k => k = g) w7 w8 := by rw [hw8]; exact (((Upd.refl (fun k => k = g) w7).set ⟨g, k * 3, none⟩ _ (.inl rfl)).set ⟨g, k * 3 + 1, none⟩ _ (.inl rfl)).set ⟨g, k * 3 + 2, none⟩ _ (.inl rfl)
      have hN8 : NOwn w8 w5.heap.size (.slice (some ⟨g, 0, none⟩) V.length c6) (V.set k ⟨x.k, x.n, z.kids⟩) := by
        rw [hw8]
        have h := HF7.out.nod.set3 hk ⟨x.k, x.n, z.kids⟩
        simp only at h
        exact h
      have HF8 := hide_ (HF7.out.set (by omega) hV0 u8 hN8)
      have hW : ∀ y ∈ V.set k ⟨x.k, x.n, z.kids⟩, NvOk y := fun y hy => by
        rcases List.mem_or_eq_of_mem_set hy with h | h
        · exact hVk y h
        · rw [h]; exact hx
      have hWl : (V.set k ⟨x.k, x.n, z.kids⟩).length = V.length := by simp
      have HZx := hide_ hzx
      generalize hWe : V.set k ⟨x.k, x.n, z.kids⟩ = W at *
      have HWe := hide_ hWe
      clear hWe
      have HCk : Hid (∀ (W : List Nv) (w' : World), W.length = V.length → FiS w w5 w' w4.heap.size (.slice a U.length cap) (.slice ar Rc.length cr) (.slice (some ⟨g, 0, none⟩) V.length c6) Q Rc W → Calls Tryd.prog 16 #[.agg #[.slice a U.length cap, .slice ar Rc.length cr], .int .i64 t', .slice (some ⟨g, 0, none⟩) V.length c6] w' fun e w'' => e = .returned (.agg #[.int .i64 (tyV U Rc t' W).2.1, .int .i64 (tyV U Rc t' W).2.2]) ∧ Below w'.heap.size w' w'') := hide_ (fun W w' hl h => by
        obtain ⟨a', c', e', hr'⟩ := h.nod.row
        injection e' with e1 _ _
        subst e1
        have h2 := tcheck_any a cap U ar cr Rc t' (some ⟨g, 0, none⟩) c6 W w' (by omega) (by omega) (by omega) HLs (hide_ (town_row h.ty HQ.out)) (hide_ (rown_row h.rt)) (hide_ hr') (hide_ (ht.out.later h.bel))
        rw [hl] at h2
        exact h2)
      have HCk8 := hide_ (HCk.out W w8 hWl HF8.out)
      have HWk := hide_ hW
      have HWl := hide_ hWl
      have KN8 := hide_ (KN7.out.upd u8 (fun e => hgq e.symm))
      have HIp8 : Hid (IOwn w8 w3.heap.size (.slice ap p'.length cp) p') := hide_ (by
        obtain ⟨zs, hz⟩ := ownS_type HF7.out.nod (k := g) rfl
        exact upd_ne (upd_ne HIp6.out u7 KN6.out (by decide)) u8 hz (by decide))
      clear u7 u8 hN8 hW hWl hzo hzx KN5 HF6 HN6 HB6x
      go_upto_region 11 with fail
      rw [← hw7]
      clear hw7 z0 z1 z2 n0 n1 n2 nf
      go_upto_region 12 with fail
      rw [← hw8]
      clear hw8 y0 y1 y2 yf
      have hMk := someT_mk HS.out ht0 ht1 HSv.out
      obtain ⟨tys, hwk, hcv, htl, -, -, -⟩ := some_back HS.out ht0 ht1 hMk
      have hput := chkV_put V 1 0 k ⟨x.k, x.n, z.kids⟩ z HZx.out rfl (by rw [hcv])
      rw [HWe.out] at hput
      have htv : tyV U Rc t' W = if (chkV 1 0 W).1 ≠ 0 then ([], chkV 1 0 W) else wkT U [t'] W 0 := by unfold tyV; rw [HS.out.chk, if_neg (by simp), if_neg (by omega)]
      have HTv := hide_ htv
      have HWk0 := hide_ hwk
      have HCv := hide_ hcv
      have HTl := hide_ htl
      have hrw : VRow w8 (some ⟨g, 0, none⟩) W := by
        obtain ⟨a', c', e', hr'⟩ := HF8.out.nod.row
        injection e' with e1 _ _
        subst e1
        exact hr'
      have HCn := hide_ (checkN_any (some ⟨g, 0, none⟩) V.length c6 W w8 HWl.out (by omega) (hide_ hrw) HWk)
      obtain ⟨ce, hce⟩ : ∃ ce, (chkV 1 0 W).1 = ce := ⟨_, rfl⟩
      obtain ⟨ca, hca⟩ : ∃ ca, (chkV 1 0 W).2 = ca := ⟨_, rfl⟩
      rw [hce, hca] at HCn
      have HCe := hide_ hce
      have HCa := hide_ hca
      have HPut := hide_ hput
      clear hMk hput htv hwk hcv htl hrw hce hca m0 m1 m2 HCk8
      go_wp2_with fail
      refine HCn.out.mono ?_
      rintro e w9 ⟨rfl, hB9⟩
      have HF9 := hide_ (HF8.out.later hB9)
      have KN9 := hide_ (KN8.out.later hB9)
      have HIp9 := hide_ (HIp8.out.later hB9)
      have HCk9 := hide_ (HCk.out W w9 HWl.out HF9.out)
      obtain ⟨E, hE⟩ : ∃ e1, (tyV U Rc t' W).2.1 = e1 := ⟨_, rfl⟩
      obtain ⟨A, hA⟩ : ∃ e2, (tyV U Rc t' W).2.2 = e2 := ⟨_, rfl⟩
      rw [hE, hA] at HCk9
      have HE := hide_ hE
      have HA := hide_ hA
      have i0 := HF9.out.sch.cell 0; have i1 := HF9.out.sch.cell 1
      simp at i0 i1
      clear hB9 hE hA HCn HF8 HF7 KN7 KN6 KN8 HIp8 HIp6 HIp5
      go_wp2_with fail
      refine HCk9.out.mono ?_
      rintro e w10a ⟨rfl, hB10⟩
      obtain ⟨w10, hw10⟩ : ∃ wx, wx = w10a.alloc (.cells #[.int .i64 E, .int .i64 A] 42) := ⟨_, rfl⟩
      have b10 : Below w10a.heap.size w10a w10 := by rw [hw10]; exact below1 _ _
      have k10 : Blk w10 w10a.heap.size 42 [.int .i64 E, .int .i64 A] := by rw [hw10]; exact Blk.newA w10a _ _
      obtain ⟨g19, hg19⟩ : ∃ g, w10a.heap.size = g := ⟨_, rfl⟩
      rw [hg19] at k10
      have hb910 := below_to hB10 b10
      have HF10 := hide_ (HF9.out.later hb910)
      have KN10 := hide_ (KN9.out.later hb910)
      have HIp10 := hide_ (HIp9.out.later hb910)
      have K10 := hide_ k10
      have p0 := k10.cell 0; have p1 := k10.cell 1
      have q0 := KN10.out.cell 0
      simp at p0 p1 q0
      clear hB10 b10 k10 hb910 HF9 KN9 HIp9 HCk9 i0 i1
      go_upto_region 14 with fail
      rw [← hw10]
      clear hw10 hg19
      rcases HPut.out with hp | hp
      · have hce0 : ce = 0 := by rw [← HCe.out, hp]
        subst hce0
        have hwE : E = (wkT U [t'] W 0).2.1 := by rw [← HE.out, HTv.out, if_neg (by rw [hp]; simp)]
        have hwA : A = (wkT U [t'] W 0).2.2 := by rw [← HA.out, HTv.out, if_neg (by rw [hp]; simp)]
        have HwE := hide_ hwE
        have HwA := hide_ hwA
        have HCw : Hid ((chkV 1 0 W).1 = 0) := hide_ (by rw [hp])
        clear hp hwE hwA HPut HCe HCa HTv HE HA
        by_cases hk0 : k = 0
        · subst hk0
          have hrt : E = 0 ∨ A = 0 ∨ (0 < E ∧ 0 < A ∧ x.k = 6) := by
            have hVc : V = z :: V.tail := by
              cases V with
              | nil => simp at hV0
              | cons v0 l => have := HZx.out; simp at this; subst this; rfl
            have hWc : W = ⟨x.k, x.n, z.kids⟩ :: V.tail := by
              rw [← HWe.out]
              conv => lhs; rw [hVc]
              rfl
            have h := root_put (T := U) (t := t') (x0 := z) (y := ⟨x.k, x.n, z.kids⟩) (L := V.tail) (tys := tys) rfl (by rw [← hVc]; exact HWk0.out)
            rw [← hWc, ← HwE.out, ← HwA.out] at h
            exact h
          clear HwE HwA HCw HWk0 HCv HTl
          rcases hrt with h | h | ⟨h1, h2, h3⟩
          · subst h
            go_wp2_with (go_at_call 22; refine (num_any _ _).mono ?_; rintro e w' ⟨rfl, rfl⟩)
            go_ret
            exact ⟨rfl, HF10.out.bel⟩
          · subst h
            by_cases hE0 : E = 0
            · subst hE0
              go_wp2_with (go_at_call 22; refine (num_any _ _).mono ?_; rintro e w' ⟨rfl, rfl⟩)
              go_ret
              exact ⟨rfl, HF10.out.bel⟩
            · have hE1 : (E == 0) = false := by simpa using hE0
              go_wp2_with (go_at_call 22; refine (num_any _ _).mono ?_; rintro e w' ⟨rfl, rfl⟩)
              go_ret
              exact ⟨rfl, HF10.out.bel⟩
          · have hE1 : (E == 0) = false := by simp; omega
            have hA1 : (A == 0) = false := by simp; omega
            have hx6 : (x.k == 6) = true := by simp [h3]
            go_wp2_with (go_at_call 22; refine (num_any _ _).mono ?_; rintro e w' ⟨rfl, rfl⟩)
            go_ret
            exact ⟨rfl, HF10.out.bel⟩
        · skip
          have hV00 := hV0
          obtain ⟨x0, L0, hVc⟩ : ∃ x0 L0, V = x0 :: L0 := by
            cases V with
            | nil => simp at hV00
            | cons v0 l => exact ⟨v0, l, rfl⟩
          obtain ⟨L, hWc, hLk⟩ : ∃ L, W = x0 :: L ∧ L.map (·.kids) = L0.map (·.kids) := by
            obtain ⟨k', rfl⟩ : ∃ k', k = k' + 1 := ⟨k - 1, by omega⟩
            have h1 := HWe.out
            have h2 := HZx.out
            rw [hVc] at h1 h2
            rw [List.set_cons_succ] at h1
            exact ⟨_, h1.symm, kids_put L0 k' _ z (by simpa using h2) rfl⟩
          obtain ⟨hst, hkl0⟩ := KdI.start HS.out ht0 ht1 (x0 := x0) (L0 := L0) (L := L) (tys := tys) (E := E) (A := A) hLk (by rw [← hVc, HCv.out]) (by rw [← hWc]; exact HCw.out) (by rw [← hVc]; exact HWk0.out) (by rw [← hWc]; exact HwE.out) (by rw [← hWc]; exact HwA.out)
          rw [← hVc, ← hWc] at hst
          have hkb : 0 ≤ x0.kids ∧ x0.kids ≤ 1048576 := rightV_kids (chkV_right V 1 0 (by rw [HCv.out]) x0 (by rw [hVc]; simp))
          have hW0 : W[0]? = some x0 := by rw [hWc]; rfl
          have HW0 := hide_ hW0
          have HKd := hide_ hst
          have HKl := hide_ hkl0
          have HMu : Hid (∀ w', Below w10.heap.size w10 w' → Calls Tryd.prog 25 #[.agg #[.slice a U.length cap, .slice ar Rc.length cr], .int .i64 t', .slice ap p'.length cp] w' fun e w2 => ∃ v, e = .returned v ∧ Hid (NOwn w2 w'.heap.size v V) ∧ Hid (Below w'.heap.size w' w2)) := hide_ (fun w' hb => by
            have hx := HF10.out.later hb
            obtain ⟨a2, c2, e2, g2, -, -⟩ := (HIp10.out.later hb).row
            injection e2 with e2 _ _
            rw [← e2] at g2
            have h := must_any a cap U ar cr Rc t' ap p'.length cp p' w' (by omega) (by omega) HLs (hide_ (town_row hx.ty HQ.out)) (hide_ (rown_row hx.rt)) (hide_ rfl) (hide_ g2)
            rw [HSv.out] at h
            exact h)
          have HTy : Hid (∀ (w' : World) (av : Option Addr) (cv : Nat), Below w10.heap.size w10 w' → VRow w' av V → Calls Tryd.prog 18 #[.agg #[.slice a U.length cap, .slice ar Rc.length cr], .int .i64 t', .slice av V.length cv] w' fun e w2 => ∃ v, e = .returned (.tuple #[v, .agg #[.int .i64 0, .int .i64 0]]) ∧ Hid (IOwn w2 w'.heap.size v tys) ∧ Hid (Below w'.heap.size w' w2)) := hide_ (fun w' av cv hb hr => by
            have hx := HF10.out.later hb
            have h := types11_any a cap U ar cr Rc t' av cv V w' (by omega) (by omega) (by omega) HLs (hide_ (town_row hx.ty HQ.out)) (hide_ (rown_row hx.rt)) (hide_ hr) (hide_ hVk)
            have e : tyV U Rc t' V = (tys, 0, 0) := by unfold tyV; rw [HS.out.chk, if_neg (by simp), if_neg (by omega), HCv.out, if_neg (by simp)]; exact HWk0.out
            rw [e] at h
            exact h)
          have HSS : Hid (∀ w', Below w10.heap.size w10 w' → (fun w' => w'.cell? ⟨w4.heap.size, 0, none⟩ = some (.slice a U.length cap) ∧ w'.cell? ⟨w4.heap.size, 1, none⟩ = some (.slice ar Rc.length cr)) w') := hide_ (fun w' hb => ⟨(HF10.out.sch.later hb).cell 0, (HF10.out.sch.later hb).cell 1⟩)
          have hk0' : ((k : Int) == 0) = false := by simp; omega
          have hk0'' : (k == 0) = false := by simpa using hk0
          clear hst hkl0 hLk HWk0 HwE HwA q0 hVc hWc hV00 hW0
          go_upto_region 19 with fail
          go_cut [21, 22] from 120 to 130 (fun x21 x22 wc => ∃ (v : Value) (wf : World), wf = wc ∧ x21 = v ∧ Hid (IOwn wf w10.heap.size v tys) ∧ Hid (Below w10.heap.size w10 wf))
          case first =>
            refine wp_region_last 12 (fun w' => w'.cell? ⟨w4.heap.size, 0, none⟩ = some (.slice a U.length cap) ∧ w'.cell? ⟨w4.heap.size, 1, none⟩ = some (.slice ar Rc.length cr)) (by kernel_rfl) (HSS.out _ ((Below.refl w10.heap.size w10).drew)) (fun hHeld => ?_)
            refine wpAnyF_take [12] (by kernel_rfl) (i := 0) (v := ?vr1) rfl (by kernel_rfl) (by kernel_rfl) (by kernel_rfl) (fun _ _ _ h => h) (Or.inl ⟨by kernel_rfl, ?hyr1⟩) hHeld ?restr1
            case hyr1 => intro w' hSw; (try dsimp only at hSw); go_simp; try with_reducible rfl
            simp only [Act.put]
            refine wpAnyF_take [12] (by kernel_rfl) (i := 1) (v := ?vr2) rfl (by kernel_rfl) (by kernel_rfl) (by kernel_rfl) (fun _ _ _ h => h) (Or.inl ⟨by kernel_rfl, ?hyr2⟩) hHeld ?restr2
            case hyr2 => intro w' hSw; (try dsimp only at hSw); go_simp; try with_reducible rfl
            simp only [Act.put]
            refine wpAnyF_take [12] (by kernel_rfl) (i := 2) (v := ?vr3) rfl (by kernel_rfl) (by kernel_rfl) (by kernel_rfl) (fun _ _ _ h => h) (Or.inl ⟨by kernel_rfl, ?hyr3⟩) hHeld ?restr3
            case hyr3 => intro w' hSw; (try dsimp only at hSw); go_simp; try with_reducible rfl
            simp only [Act.put]
            refine wpAnyF_take [12] (by kernel_rfl) (i := 3) (v := ?vr4) rfl (by kernel_rfl) (by kernel_rfl) (by kernel_rfl) (fun _ _ _ h => h) (Or.inl ⟨by kernel_rfl, ?hyr4⟩) hHeld ?restr4
            case hyr4 => intro w' hSw; (try dsimp only at hSw); go_simp; try with_reducible rfl
            simp only [Act.put]
            refine wpAnyF_take [12] (by kernel_rfl) (i := 4) (v := ?vr5) rfl (by kernel_rfl) (by kernel_rfl) (by kernel_rfl) (fun _ _ _ h => h) (Or.inl ⟨by kernel_rfl, ?hyr5⟩) hHeld ?restr5
            case hyr5 => intro w' hSw; (try dsimp only at hSw); go_simp; try with_reducible rfl
            simp only [Act.put]
            refine wpAnyF_ready (rs := [5, 10]) (by kernel_rfl) (by simp) ?_
            refine AllReadyF.cons rfl (fun K hK => ?_) ?_
            · go_simp
              refine (HMu.out _ ((Below.refl w10.heap.size w10).drew)).mono ?_
              rintro e wM ⟨vM, rfl, HNm, HBm⟩
              obtain ⟨avm, cvm, hvm, hrm⟩ := HNm.out.row
              subst hvm
              dsimp only
              have HRm := hide_ hrm
              clear hrm
              have HBM := hide_ (below_to ((Below.refl w10.heap.size w10).drew) HBm.out)
              refine hK.out _ _ (HSS.out _ HBM.out) (fun hHeld => ?_)
              clear hK K
              refine wpAnyF_ready (rs := [6, 10]) (by kernel_rfl) (by simp) ?_
              refine AllReadyF.cons rfl (fun K hK => ?_) ?_
              · go_simp
                refine (HTy.out _ _ _ HBM.out HRm.out).mono ?_
                rintro e wT ⟨vt, rfl, HIt, HBt⟩
                dsimp only
                have HBT := hide_ (below_to HBM.out HBt.out)
                have HIt : Hid (IOwn wT w10.heap.size vt tys) := hide_ (own_base HIt.out HBM.out.size)
                refine hK.out _ _ (HSS.out _ HBT.out) (fun hHeld => ?_)
                clear hK K
                refine wpAnyF_take [12] (by kernel_rfl) (i := 7) (v := ?vr6) rfl (by kernel_rfl) (by kernel_rfl) (by kernel_rfl) (fun _ _ _ h => h) (Or.inl ⟨by kernel_rfl, ?hyr6⟩) hHeld ?restr6
                case hyr6 => intro w' hSw; (try dsimp only at hSw); go_simp; try with_reducible rfl
                simp only [Act.put]
                refine wpAnyF_take [12] (by kernel_rfl) (i := 8) (v := ?vr7) rfl (by kernel_rfl) (by kernel_rfl) (by kernel_rfl) (fun _ _ _ h => h) (Or.inl ⟨by kernel_rfl, ?hyr7⟩) hHeld ?restr7
                case hyr7 => intro w' hSw; (try dsimp only at hSw); go_simp; try with_reducible rfl
                simp only [Act.put]
                refine wpAnyF_take [12] (by kernel_rfl) (i := 9) (v := ?vr8) rfl (by kernel_rfl) (by kernel_rfl) (by kernel_rfl) (fun _ _ _ h => h) (Or.inl ⟨by kernel_rfl, ?hyr8⟩) hHeld ?restr8
                case hyr8 => intro w' hSw; (try dsimp only at hSw); go_simp; try with_reducible rfl
                simp only [Act.put]
                refine wpAnyF_ready (rs := [10]) (by kernel_rfl) (by simp) ?_
                refine AllReadyF.cons rfl (fun K hK => ?_) AllReadyF.nil
                go_simp
                refine hK.out _ _ (HSS.out _ (below_to HBT.out (below1 _ _))) (fun hHeld => ?_)
                clear hK K
                refine wpAnyF_take [12] (by kernel_rfl) (i := 11) (v := ?vr9) rfl (by kernel_rfl) (by kernel_rfl) (by kernel_rfl) (fun _ _ _ h => h) (Or.inl ⟨by kernel_rfl, ?hyr9⟩) hHeld ?restr9
                case hyr9 => intro w' hSw; (try dsimp only at hSw); go_simp; try with_reducible rfl
                simp only [Act.put]
                refine wpAnyF_ready (rs := [12]) (by kernel_rfl) (by simp) ?_
                refine AllReadyF.last rfl (fun K hK => ?_)
                first | (have l0 := KZ.out.cell 0; have l1 := KZ.out.cell 1; have lf := (fun i => KZ.out.frozen i); simp at l0 l1; go_simp) | go_simp
                refine hK.out _ _ ?_
                clear hK K
                refine wpAnyF_done (by kernel_rfl) ?_ _
                clear HSS
                go_wp2
                go_meet
                case rel => first | exact ⟨_, _, rfl, rfl, hide_ (HIt.out.later (below1 _ _)), hide_ (below_to HBT.out (below1 _ _))⟩ | exact ⟨_, _, rfl, rfl, hide_ (upd_ne HIt.out (((Upd.refl (fun k => k = _) wT).set _ _ (.inl rfl)).set _ _ (.inl rfl)) KZ.out (by decide)), hide_ (below_wr2 HBT.out _ HGz.out _ _)⟩
              refine AllReadyF.cons rfl (fun K hK => ?_) AllReadyF.nil
              go_simp
              have HGz : Hid (w10.heap.size ≤ wM.heap.size) := hide_ HBM.out.size
              have HBM := hide_ (below_to HBM.out (below1 wM (.cells #[.int .i64 0, .int .i64 0] 42)))
              have HRm := hide_ (HRm.out.later (below1 wM (.cells #[.int .i64 0, .int .i64 0] 42)))
              have KZ : Hid (Blk (wM.alloc (.cells #[.int .i64 0, .int .i64 0] 42)) wM.heap.size 42 [.int .i64 0, .int .i64 0]) := hide_ (Blk.newA wM #[.int .i64 0, .int .i64 0] 42)
              refine hK.out _ _ (HSS.out _ HBM.out) (fun hHeld => ?_)
              clear hK K
              refine wpAnyF_ready (rs := [6]) (by kernel_rfl) (by simp) ?_
              refine AllReadyF.cons rfl (fun K hK => ?_) AllReadyF.nil
              go_simp
              refine (HTy.out _ _ _ HBM.out HRm.out).mono ?_
              rintro e wT ⟨vt, rfl, HIt, HBt⟩
              dsimp only
              have HBT := hide_ (below_to HBM.out HBt.out)
              have HIt : Hid (IOwn wT w10.heap.size vt tys) := hide_ (own_base HIt.out HBM.out.size)
              have KZ := hide_ (KZ.out.later HBt.out)
              refine hK.out _ _ (HSS.out _ HBT.out) (fun hHeld => ?_)
              clear hK K
              refine wpAnyF_take [12] (by kernel_rfl) (i := 7) (v := ?vr10) rfl (by kernel_rfl) (by kernel_rfl) (by kernel_rfl) (fun _ _ _ h => h) (Or.inl ⟨by kernel_rfl, ?hyr10⟩) hHeld ?restr10
              case hyr10 => intro w' hSw; (try dsimp only at hSw); go_simp; try with_reducible rfl
              simp only [Act.put]
              refine wpAnyF_take [12] (by kernel_rfl) (i := 8) (v := ?vr11) rfl (by kernel_rfl) (by kernel_rfl) (by kernel_rfl) (fun _ _ _ h => h) (Or.inl ⟨by kernel_rfl, ?hyr11⟩) hHeld ?restr11
              case hyr11 => intro w' hSw; (try dsimp only at hSw); go_simp; try with_reducible rfl
              simp only [Act.put]
              refine wpAnyF_take [12] (by kernel_rfl) (i := 9) (v := ?vr12) rfl (by kernel_rfl) (by kernel_rfl) (by kernel_rfl) (fun _ _ _ h => h) (Or.inl ⟨by kernel_rfl, ?hyr12⟩) hHeld ?restr12
              case hyr12 => intro w' hSw; (try dsimp only at hSw); go_simp; try with_reducible rfl
              simp only [Act.put]
              refine wpAnyF_take [12] (by kernel_rfl) (i := 11) (v := ?vr13) rfl (by kernel_rfl) (by kernel_rfl) (by kernel_rfl) (fun _ _ _ h => h) (Or.inl ⟨by kernel_rfl, ?hyr13⟩) hHeld ?restr13
              case hyr13 => intro w' hSw; (try dsimp only at hSw); go_simp; try with_reducible rfl
              simp only [Act.put]
              refine wpAnyF_ready (rs := [12]) (by kernel_rfl) (by simp) ?_
              refine AllReadyF.last rfl (fun K hK => ?_)
              first | (have l0 := KZ.out.cell 0; have l1 := KZ.out.cell 1; have lf := (fun i => KZ.out.frozen i); simp at l0 l1; go_simp) | go_simp
              refine hK.out _ _ ?_
              clear hK K
              refine wpAnyF_done (by kernel_rfl) ?_ _
              clear HSS
              go_wp2
              go_meet
              case rel => first | exact ⟨_, _, rfl, rfl, hide_ (HIt.out.later (below1 _ _)), hide_ (below_to HBT.out (below1 _ _))⟩ | exact ⟨_, _, rfl, rfl, hide_ (upd_ne HIt.out (((Upd.refl (fun k => k = _) wT).set _ _ (.inl rfl)).set _ _ (.inl rfl)) KZ.out (by decide)), hide_ (below_wr2 HBT.out _ HGz.out _ _)⟩
            refine AllReadyF.cons rfl (fun K hK => ?_) AllReadyF.nil
            go_simp
            have HBZ : Hid (Below w10.heap.size w10 (w10.drew.alloc (.cells #[.int .i64 0, .int .i64 0] 42))) := hide_ (below_to ((Below.refl _ _).drew) (below1 _ _))
            have KZ : Hid (Blk (w10.drew.alloc (.cells #[.int .i64 0, .int .i64 0] 42)) w10.heap.size 42 [.int .i64 0, .int .i64 0]) := hide_ (Blk.newA w10.drew #[.int .i64 0, .int .i64 0] 42)
            have HGz : Hid (w10.heap.size ≤ w10.heap.size) := hide_ (Nat.le_refl _)
            refine hK.out _ _ (HSS.out _ HBZ.out) (fun hHeld => ?_)
            clear hK K
            refine wpAnyF_ready (rs := [5]) (by kernel_rfl) (by simp) ?_
            refine AllReadyF.cons rfl (fun K hK => ?_) AllReadyF.nil
            go_simp
            refine (HMu.out _ HBZ.out).mono ?_
            rintro e wM ⟨vM, rfl, HNm, HBm⟩
            obtain ⟨avm, cvm, hvm, hrm⟩ := HNm.out.row
            subst hvm
            dsimp only
            have HRm := hide_ hrm
            clear hrm
            have HBM := hide_ (below_to HBZ.out HBm.out)
            have KZ := hide_ (KZ.out.later HBm.out)
            refine hK.out _ _ (HSS.out _ HBM.out) (fun hHeld => ?_)
            clear hK K
            refine wpAnyF_ready (rs := [6]) (by kernel_rfl) (by simp) ?_
            refine AllReadyF.cons rfl (fun K hK => ?_) AllReadyF.nil
            go_simp
            refine (HTy.out _ _ _ HBM.out HRm.out).mono ?_
            rintro e wT ⟨vt, rfl, HIt, HBt⟩
            dsimp only
            have HBT := hide_ (below_to HBM.out HBt.out)
            have HIt : Hid (IOwn wT w10.heap.size vt tys) := hide_ (own_base HIt.out HBM.out.size)
            have KZ := hide_ (KZ.out.later HBt.out)
            refine hK.out _ _ (HSS.out _ HBT.out) (fun hHeld => ?_)
            clear hK K
            refine wpAnyF_take [12] (by kernel_rfl) (i := 7) (v := ?vr14) rfl (by kernel_rfl) (by kernel_rfl) (by kernel_rfl) (fun _ _ _ h => h) (Or.inl ⟨by kernel_rfl, ?hyr14⟩) hHeld ?restr14
            case hyr14 => intro w' hSw; (try dsimp only at hSw); go_simp; try with_reducible rfl
            simp only [Act.put]
            refine wpAnyF_take [12] (by kernel_rfl) (i := 8) (v := ?vr15) rfl (by kernel_rfl) (by kernel_rfl) (by kernel_rfl) (fun _ _ _ h => h) (Or.inl ⟨by kernel_rfl, ?hyr15⟩) hHeld ?restr15
            case hyr15 => intro w' hSw; (try dsimp only at hSw); go_simp; try with_reducible rfl
            simp only [Act.put]
            refine wpAnyF_take [12] (by kernel_rfl) (i := 9) (v := ?vr16) rfl (by kernel_rfl) (by kernel_rfl) (by kernel_rfl) (fun _ _ _ h => h) (Or.inl ⟨by kernel_rfl, ?hyr16⟩) hHeld ?restr16
            case hyr16 => intro w' hSw; (try dsimp only at hSw); go_simp; try with_reducible rfl
            simp only [Act.put]
            refine wpAnyF_take [12] (by kernel_rfl) (i := 11) (v := ?vr17) rfl (by kernel_rfl) (by kernel_rfl) (by kernel_rfl) (fun _ _ _ h => h) (Or.inl ⟨by kernel_rfl, ?hyr17⟩) hHeld ?restr17
            case hyr17 => intro w' hSw; (try dsimp only at hSw); go_simp; try with_reducible rfl
            simp only [Act.put]
            refine wpAnyF_ready (rs := [12]) (by kernel_rfl) (by simp) ?_
            refine AllReadyF.last rfl (fun K hK => ?_)
            first | (have l0 := KZ.out.cell 0; have l1 := KZ.out.cell 1; have lf := (fun i => KZ.out.frozen i); simp at l0 l1; go_simp) | go_simp
            refine hK.out _ _ ?_
            clear hK K
            refine wpAnyF_done (by kernel_rfl) ?_ _
            clear HSS
            go_wp2
            go_meet
            case rel => first | exact ⟨_, _, rfl, rfl, hide_ (HIt.out.later (below1 _ _)), hide_ (below_to HBT.out (below1 _ _))⟩ | exact ⟨_, _, rfl, rfl, hide_ (upd_ne HIt.out (((Upd.refl (fun k => k = _) wT).set _ _ (.inl rfl)).set _ _ (.inl rfl)) KZ.out (by decide)), hide_ (below_wr2 HBT.out _ HGz.out _ _)⟩
          case rest =>
          obtain ⟨vt, w11, rfl, rfl, HIt, HB11⟩ := hcut
          obtain ⟨gt, ct, ys, hvt, -, -, -, -, -, -⟩ := ownS_blk HIt.out (by rw [HTl.out]; exact hV0)
          subst hvt
          have HF11 := hide_ (HF10.out.later HB11.out)
          have K11 := hide_ (K10.out.later HB11.out)
          have htl := HTl.out
          have htl1 : decide ((tys.length : Int) < 1) = false := decide_eq_false (by omega)
          have htl2 : ¬ (tys.length : Int) < 1 := by omega
          clear HMu HTy HSS p0 p1 HF10 K10 HIp10 KN10
          go_wp2_with fail
          go_loopw [20, 23, 24] (fun x20 x23 x24 wr => ∃ (i pl : Nat) (all : Bool) (st : List Int), x20 = .bool all ∧ x23 = .int .i64 (pl : Int) ∧ x24 = .int .i64 (i : Int) ∧ Hid ((i : Int) + st.length = x0.kids) ∧ Hid (KdI U V W tys E A pl st all) ∧ Hid (FiS w w5 wr w4.heap.size (.slice a U.length cap) (.slice ar Rc.length cr) (.slice (some ⟨g, 0, none⟩) V.length c6) Q Rc W) ∧ Hid (Blk wr g19 42 [.int .i64 E, .int .i64 A]) ∧ Hid (IOwn wr w10.heap.size (.slice (some ⟨gt, 0, none⟩) tys.length ct) tys)) (fun _ _ x24 _ => (x0.kids - intOf x24).toNat)
          case atStart => exact ⟨0, 1, true, _, rfl, rfl, rfl, hide_ (by rw [HKl.out]; simp), HKd, HF11, K11, HIt⟩
          case round =>
            obtain ⟨i, pl, all, st, rfl, rfl, rfl, HI, HKi, HF, HKf, HIn⟩ := hrel
            generalize wr = wq at *
            clear HKd HF11 K11 HIt HKl
            have hI := HI.out
            obtain ⟨-, -, v2⟩ := HF.out.nod.at3 HW0.out
            simp at v2
            have f0 := HKf.out.cell 0; have f1 := HKf.out.cell 1
            simp at f0 f1
            cases st with
            | nil =>
              have hil : ¬ (i : Int) < x0.kids := by simp at hI; omega
              have hs := HKi.out.stop
              have HRes : Hid (((E == 0) == all) = true) := hide_ (by
                cases all with
                | true => simp [hs.2 rfl]
                | false => simp; intro h; have := hs.1 h; cases this)
              go_wp2
              go_ret
              exact ⟨by rw [← HRes.out]; rfl, HF.out.bel⟩
            | cons s st =>
              have hil : (i : Int) < x0.kids := by simp at hI; omega
              obtain ⟨hpl, hts, hn0, hnl, hc1, hstep⟩ := HKi.out.next HS.out
              obtain ⟨n, hn⟩ : ∃ n, bhN 1 (W.drop pl) = n := ⟨_, rfl⟩
              have hwl := HWl.out
              have hrw : VRow wq (some ⟨g, 0, none⟩) W := by
                obtain ⟨a', c', e', hr'⟩ := HF.out.nod.row
                injection e' with e1 _ _
                subst e1
                exact hr'
              have hNx := nextR_any (some ⟨g, 0, none⟩) c6 W pl (((s :: st).length : Nat) : Int) wq (by omega) hpl (by simp only [List.length_cons]; omega) HCw (hide_ HKi.out.shape) (hide_ hrw) HWk
              rw [hn, hwl] at hNx
              have HNx := hide_ hNx
              rw [hn] at hn0 hnl hc1 hstep
              have HSt := hide_ hstep
              have HC1 := hide_ hc1
              have HTs := hide_ hts
              clear hNx hrw hstep hc1 hts
              go_wp2_with fail
              refine HNx.out.mono ?_
              rintro e w12 ⟨rfl, hB12⟩
              have HF12 := hide_ (HF.out.later hB12)
              have KF12 := hide_ (HKf.out.later hB12)
              have HI12 := hide_ (HIn.out.later hB12)
              clear hB12 HNx HF HKf HIn v2 f0 f1
              generalize w12 = wq at *
              obtain ⟨ge, hge⟩ : ∃ ge, (wkT U [s] ((W.drop pl).take n) 0).2.1 = ge := ⟨_, rfl⟩
              obtain ⟨ga, hga⟩ : ∃ ga, (wkT U [s] ((W.drop pl).take n) 0).2.2 = ga := ⟨_, rfl⟩
              have hln : ((W.drop pl).take n).length = n := by rw [List.length_take, List.length_drop]; omega
              have hgb : 0 ≤ ga ∧ ga ≤ 2000000 := by
                by_cases h : ge = 0
                · have := wkT_zero U ((W.drop pl).take n) [s] 0 (by rw [hge]; exact h)
                  rw [hga] at this
                  omega
                · have := wkT_at U ((W.drop pl).take n) [s] 0 (by rw [hge]; exact h)
                  rw [hga, hln] at this
                  omega
              have hsin := HKi.out.inT s (by simp)
              have HCq : Hid (∀ (w' : World) (o m cq : Nat), Below wq.heap.size wq w' → o = pl * 3 → m = n → Calls Tryd.prog 16 #[.agg #[.slice a U.length cap, .slice ar Rc.length cr], .int .i64 s, .slice (some ⟨g, o, none⟩) m cq] w' fun e w2 => e = .returned (.agg #[.int .i64 ge, .int .i64 ga]) ∧ Below w'.heap.size w' w2) := hide_ (fun w' o m cq hb ho hm => by
                subst ho hm
                have hx := HF12.out.later hb
                obtain ⟨a', c', e', hr'⟩ := hx.nod.row
                injection e' with e1 _ _
                subst e1
                have h2 := tcheck_any a cap U ar cr Rc s (some ⟨g, pl * 3, none⟩) cq ((W.drop pl).take m) w' (by omega) (by omega) (by omega) HLs (hide_ (town_row hx.ty HQ.out)) (hide_ (rown_row hx.rt)) (hide_ (by have h := (vrow_drop hr' pl).take m; rw [Nat.zero_add] at h; exact h)) (hide_ (ht.out.later hx.bel))
                have e : tyV U Rc s ((W.drop pl).take m) = wkT U [s] ((W.drop pl).take m) 0 := by unfold tyV; rw [HS.out.chk, if_neg (by simp), if_neg (by omega), if_neg (by rw [HC1.out]; simp)]
                rw [e, hge, hga, hln] at h2
                exact h2)
              have htsl : pl < tys.length := by rw [HTl.out]; omega
              have htc := HI12.out.at htsl
              rw [show tys.getD pl 0 = s by simp [List.getD, HTs.out]] at htc
              have HTc : Hid (∀ w', Below wq.heap.size wq w' → w'.cell? ⟨gt, pl, none⟩ = some (.int .i64 s)) := hide_ (fun w' hb => (hb.cell (p := ⟨gt, pl, none⟩) (World.block_lt_of_cell? _ _ htc)).trans htc)
              have HSS : Hid (∀ w', Below wq.heap.size wq w' → (fun w' => w'.cell? ⟨w4.heap.size, 0, none⟩ = some (.slice a U.length cap) ∧ w'.cell? ⟨w4.heap.size, 1, none⟩ = some (.slice ar Rc.length cr) ∧ w'.cell? ⟨gt, pl, none⟩ = some (.int .i64 s)) w') := hide_ (fun w' hb => ⟨(HF12.out.sch.later hb).cell 0, (HF12.out.sch.later hb).cell 1, HTc.out w' hb⟩)
              have hp1 : ¬ (tys.length : Int) ≤ pl := by omega
              have hp1b : decide (tys.length ≤ pl) = false := decide_eq_false (by omega)
              have hp2 : ¬ ((pl : Int) + n) ≤ pl := by omega
              have hp2b : decide (((pl : Int) + n) ≤ pl) = false := decide_eq_false (by omega)
              have hp3 : (pl : Int) < tys.length := by omega
              have hp4 : (pl : Int) ≤ (pl : Int) + n := by omega
              have hp5 : (pl : Int) + n ≤ c6 := by omega
              have hcp : ¬ c6 = pl := by omega
              have HG := hide_ (And.intro hge hga)
              clear hge hga htc HTc hn
              go_upto_region 29 with fail
              go_cut [27] from 147 to 166 (fun x27 wc => ∃ (gz : Nat) (wf : World), wf = wc ∧ x27 = .pointer (some ⟨gz, 0, none⟩) ∧ Hid (Blk wf gz 42 [.int .i64 ge, .int .i64 ga]) ∧ Hid (Below wq.heap.size wq wf))
              case first =>
                refine wp_region_last 11 (fun w' => w'.cell? ⟨w4.heap.size, 0, none⟩ = some (.slice a U.length cap) ∧ w'.cell? ⟨w4.heap.size, 1, none⟩ = some (.slice ar Rc.length cr) ∧ w'.cell? ⟨gt, pl, none⟩ = some (.int .i64 s)) (by kernel_rfl) (HSS.out _ ((Below.refl wq.heap.size wq).drew)) (fun hHeld => ?_)
                refine wpAnyF_take [11] (by kernel_rfl) (i := 0) (v := ?vs1) rfl (by kernel_rfl) (by kernel_rfl) (by kernel_rfl) (fun _ _ _ h => h) (Or.inl ⟨by kernel_rfl, ?hys1⟩) hHeld ?rests1
                case hys1 => intro w' hSw; (try dsimp only at hSw); go_simp; try with_reducible rfl
                simp only [Act.put]
                refine wpAnyF_take [11] (by kernel_rfl) (i := 1) (v := ?vs2) rfl (by kernel_rfl) (by kernel_rfl) (by kernel_rfl) (fun _ _ _ h => h) (Or.inl ⟨by kernel_rfl, ?hys2⟩) hHeld ?rests2
                case hys2 => intro w' hSw; (try dsimp only at hSw); go_simp; try with_reducible rfl
                simp only [Act.put]
                refine wpAnyF_take [11] (by kernel_rfl) (i := 2) (v := ?vs3) rfl (by kernel_rfl) (by kernel_rfl) (by kernel_rfl) (fun _ _ _ h => h) (Or.inl ⟨by kernel_rfl, ?hys3⟩) hHeld ?rests3
                case hys3 => intro w' hSw; (try dsimp only at hSw); go_simp; try with_reducible rfl
                simp only [Act.put]
                refine wpAnyF_take [11] (by kernel_rfl) (i := 3) (v := ?vs4) rfl (by kernel_rfl) (by kernel_rfl) (by kernel_rfl) (fun _ _ _ h => h) (Or.inl ⟨by kernel_rfl, ?hys4⟩) hHeld ?rests4
                case hys4 => intro w' hSw; (try dsimp only at hSw); go_simp; try with_reducible rfl
                simp only [Act.put]
                refine wpAnyF_take [11] (by kernel_rfl) (i := 4) (v := ?vs5) rfl (by kernel_rfl) (by kernel_rfl) (by kernel_rfl) (fun _ _ _ h => h) (Or.inl ⟨by kernel_rfl, ?hys5⟩) hHeld ?rests5
                case hys5 => intro w' hSw; (try dsimp only at hSw); go_simp; try with_reducible rfl
                simp only [Act.put]
                refine wpAnyF_take [11] (by kernel_rfl) (i := 5) (v := ?vs6) rfl (by kernel_rfl) (by kernel_rfl) (by kernel_rfl) (fun _ _ _ h => h) (Or.inl ⟨by kernel_rfl, ?hys6⟩) hHeld ?rests6
                case hys6 => intro w' hSw; (try dsimp only at hSw); go_simp; try with_reducible rfl
                simp only [Act.put]
                refine wpAnyF_take [11] (by kernel_rfl) (i := 6) (v := ?vs7) rfl (by kernel_rfl) (by kernel_rfl) (by kernel_rfl) (fun _ _ _ h => h) (Or.inl ⟨by kernel_rfl, ?hys7⟩) hHeld ?rests7
                case hys7 => intro w' hSw; (try dsimp only at hSw); go_simp; try with_reducible rfl
                simp only [Act.put]
                refine wpAnyF_take [11] (by kernel_rfl) (i := 7) (v := ?vs8) rfl (by kernel_rfl) (by kernel_rfl) (by kernel_rfl) (fun _ _ _ h => h) (Or.inl ⟨by kernel_rfl, ?hys8⟩) hHeld ?rests8
                case hys8 => intro w' hSw; (try dsimp only at hSw); go_simp; try with_reducible rfl
                simp only [Act.put]
                refine wpAnyF_take [11] (by kernel_rfl) (i := 8) (v := ?vs9) rfl (by kernel_rfl) (by kernel_rfl) (by kernel_rfl) (fun _ _ _ h => h) (Or.inl ⟨by kernel_rfl, ?hys9⟩) hHeld ?rests9
                case hys9 => intro w' hSw; (try dsimp only at hSw); go_simp; try with_reducible rfl
                simp only [Act.put]
                refine wpAnyF_ready (rs := [9, 10]) (by kernel_rfl) (by simp) ?_
                refine AllReadyF.cons rfl (fun K hK => ?_) ?_
                · go_simp
                  refine (HCq.out _ _ _ _ ((Below.refl wq.heap.size wq).drew) (by first | rfl | omega | (simp; omega)) (by first | rfl | omega | (simp; omega))).mono ?_
                  rintro e wC ⟨rfl, hbC⟩
                  dsimp only
                  have HBC := hide_ (below_to ((Below.refl wq.heap.size wq).drew) hbC)
                  clear hbC
                  refine hK.out _ _ (HSS.out _ HBC.out) (fun hHeld => ?_)
                  clear hK K
                  refine wpAnyF_ready (rs := [10]) (by kernel_rfl) (by simp) ?_
                  refine AllReadyF.cons rfl (fun K hK => ?_) AllReadyF.nil
                  go_simp
                  refine hK.out _ _ (HSS.out _ (below_to HBC.out (below1 _ _))) (fun hHeld => ?_)
                  clear hK K
                  refine wpAnyF_ready (rs := [11]) (by kernel_rfl) (by simp) ?_
                  refine AllReadyF.last rfl (fun K hK => ?_)
                  first | (have l0 := KZ.out.cell 0; have l1 := KZ.out.cell 1; have lf := (fun i => KZ.out.frozen i); simp at l0 l1; go_simp) | go_simp
                  refine hK.out _ _ ?_
                  clear hK K
                  refine wpAnyF_done (by kernel_rfl) ?_ _
                  clear HSS
                  go_wp2
                  go_meet
                  case rel => first | exact ⟨_, _, rfl, rfl, hide_ (Blk.newA wC #[.int .i64 ge, .int .i64 ga] 42), hide_ (below_to HBC.out (below1 _ _))⟩ | exact ⟨_, _, rfl, rfl, hide_ (wr2 KZ.out (.int .i64 ge) (.int .i64 ga)), hide_ (below_wr2 HBC.out _ (Nat.le_refl _) _ _)⟩
                refine AllReadyF.cons rfl (fun K hK => ?_) AllReadyF.nil
                go_simp
                have HBZ : Hid (Below wq.heap.size wq (wq.drew.alloc (.cells #[.int .i64 0, .int .i64 0] 42))) := hide_ (below_to ((Below.refl _ _).drew) (below1 _ _))
                have KZ : Hid (Blk (wq.drew.alloc (.cells #[.int .i64 0, .int .i64 0] 42)) wq.heap.size 42 [.int .i64 0, .int .i64 0]) := hide_ (Blk.newA wq.drew #[.int .i64 0, .int .i64 0] 42)
                refine hK.out _ _ (HSS.out _ HBZ.out) (fun hHeld => ?_)
                clear hK K
                refine wpAnyF_ready (rs := [9]) (by kernel_rfl) (by simp) ?_
                refine AllReadyF.cons rfl (fun K hK => ?_) AllReadyF.nil
                go_simp
                refine (HCq.out _ _ _ _ HBZ.out (by first | rfl | omega | (simp; omega)) (by first | rfl | omega | (simp; omega))).mono ?_
                rintro e wC ⟨rfl, hbC⟩
                dsimp only
                have HBC := hide_ (below_to HBZ.out hbC)
                have KZ := hide_ (KZ.out.later hbC)
                clear hbC
                refine hK.out _ _ (HSS.out _ HBC.out) (fun hHeld => ?_)
                clear hK K
                refine wpAnyF_ready (rs := [11]) (by kernel_rfl) (by simp) ?_
                refine AllReadyF.last rfl (fun K hK => ?_)
                first | (have l0 := KZ.out.cell 0; have l1 := KZ.out.cell 1; have lf := (fun i => KZ.out.frozen i); simp at l0 l1; go_simp) | go_simp
                refine hK.out _ _ ?_
                clear hK K
                refine wpAnyF_done (by kernel_rfl) ?_ _
                clear HSS
                go_wp2
                go_meet
                case rel => first | exact ⟨_, _, rfl, rfl, hide_ (Blk.newA wC #[.int .i64 ge, .int .i64 ga] 42), hide_ (below_to HBC.out (below1 _ _))⟩ | exact ⟨_, _, rfl, rfl, hide_ (wr2 KZ.out (.int .i64 ge) (.int .i64 ga)), hide_ (below_wr2 HBC.out _ (Nat.le_refl _) _ _)⟩
              case rest =>
              obtain ⟨gz, w13, rfl, rfl, KG, HB13⟩ := hcut
              have HF13 := hide_ (HF12.out.later HB13.out)
              have KF13 := hide_ (KF12.out.later HB13.out)
              have HI13 := hide_ (HI12.out.later HB13.out)
              have f0 := KF13.out.cell 0; have f1 := KF13.out.cell 1
              have u0 := KG.out.cell 0; have u1 := KG.out.cell 1
              simp at f0 f1 u0 u1
              obtain ⟨hsA, hsB⟩ := HSt.out ge ga HG.out.1 HG.out.2
              have HI2 : Hid (((i + 1 : Nat) : Int) + st.length = x0.kids) := hide_ (by simp at hI; push_cast; omega)
              clear HCq HSS HF12 KF12 HI12 HSt HG
              by_cases hge0 : ge = 0
              · have HKn := hide_ (hsB hge0)
                subst hge0
                clear hsA hsB
                go_wp2_with fail
                go_roundw
                case rel => exact ⟨i + 1, pl + n, all, st, rfl, by go_num, by go_num, HI2, HKn, HF13, KF13, HI13⟩
                case measure => simp [intOf]; omega
              · obtain ⟨hyes, hkn⟩ := hsA hge0
                have HKn := hide_ hkn
                have hgb1 : (ge != 0) = true := by simpa using hge0
                have h64 : wrap64 ((pl : Int) + ga) = (pl : Int) + ga := w64 _ (by omega)
                clear hsA hsB hkn
                cases all with
                | true =>
                  obtain ⟨e1, e2⟩ := hyes rfl
                  subst e1 e2
                  have hne1 : (E != E) = false := by simp
                  have hne2 : (((pl : Int) + ga) != ((pl : Int) + ga)) = false := by simp
                  go_wp2_with fail
                  go_roundw
                  case rel => exact ⟨i + 1, pl + n, false, st, rfl, by go_num, by go_num, HI2, HKn, HF13, KF13, HI13⟩
                  case measure => simp [intOf]; omega
                | false =>
                  clear hyes
                  go_wp2_with fail
                  go_roundw
                  case rel => exact ⟨i + 1, pl + n, false, st, rfl, by go_num, by go_num, HI2, HKn, HF13, KF13, HI13⟩
                  case measure => simp [intOf]; omega
      · have hce0 : ce = 40 := by rw [← HCe.out, hp]
        subst hce0
        have hwE : E = 40 := by rw [← HE.out, HTv.out, if_pos (by rw [hp]; simp), hp]
        have hwA : A = (k : Int) := by rw [← HA.out, HTv.out, if_pos (by rw [hp]; simp), hp]; simp
        subst hwE hwA
        go_wp2_with (go_at_call 22; refine (num_any _ _).mono ?_; rintro e w' ⟨rfl, rfl⟩)
        go_ret
        exact ⟨rfl, HF10.out.bel⟩
end Go.Proofs.YtlfjcihhcphjkaaDoor
/-
  What the reading of an argument says of memory, over any program. For a new seat: copy as <Name>Read.lean; put the Name for 'Seat', also in the import.
-/
namespace Go.Proofs.YtlfjcihhcphjkaaDoor
open Go.ChangeShapes Go.WideShapes Go.ChangeAt Go.RowKit
set_option linter.unusedVariables false

variable {H : Type} {enc : TypeId × Value → H} {P : Program} {w : World} {base : Nat} {held : Bool}

/-- A slice of integers that was read, its spare room too. -/
theorem row_read {t e : TypeId} {k : IntKind} (ht : P.underlying t = some (.slice e)) (he : P.underlying e = some (.int k)) (hc : P.cellsOf e = 1) {fuel : Nat} {v : Value} {y : DataW H × List MemPlace}
    (h : DataW.trod enc P w base (fun _ => true) held fuel t [v] = some y) :
    ∃ a n cap l, v = .slice a n cap ∧ n ≤ cap ∧ cap ≤ maxLen ∧ l.length = n ∧ Row k w a l ∧ (a = none → cap = 0) ∧ ∀ x ∈ l, (Lit.int k x).wf = true := by
  rcases open_ints ht he hc h with ⟨hcs, _⟩ | ⟨x, l, c, zs, hcs, _, hl, hm, hz, _, hcell, hwz⟩
  · simp at hcs
    subst hcs
    exact ⟨none, 0, 0, [], rfl, Nat.le_refl _, Nat.zero_le _, rfl, .inl ⟨rfl, rfl⟩, fun _ => rfl, fun x hx => by cases hx⟩
  · simp at hcs
    subst hcs
    have hz' : zs.length = c := by simpa using hz
    refine ⟨some x, l, c, zs.take l, rfl, hl, hm, by simp; omega, .inr ⟨x, rfl, fun i hi => ?_⟩, (fun h => by cases h), fun x hx => hwz x (List.mem_of_mem_take hx)⟩
    have h1 : i < l := by simp at hi; omega
    rw [hcell i (by omega)]
    simp [List.getD, h1]
/-- The same, with what it weighs. -/
theorem row_weigh {t e : TypeId} {k : IntKind} (ht : P.underlying t = some (.slice e)) (he : P.underlying e = some (.int k)) (hc : P.cellsOf e = 1) {fuel : Nat} {v : Value} {y : DataW H × List MemPlace}
    (h : DataW.trod enc P w base (fun _ => true) held fuel t [v] = some y) :
    ∃ a n cap l, v = .slice a n cap ∧ n ≤ cap ∧ cap ≤ maxLen ∧ l.length = n ∧ Row k w a l ∧ (a = none → cap = 0) ∧ (∀ x ∈ l, (Lit.int k x).wf = true) ∧ (cap = 0 ∨ cap * P.bytesOf e ∈ y.1.weights P t) := by
  rcases open_ints ht he hc h with ⟨hcs, _⟩ | ⟨x, l, c, zs, hcs, _, hl, hm, hz, hy, hcell, hwz⟩
  · simp at hcs
    subst hcs
    exact ⟨none, 0, 0, [], rfl, Nat.le_refl _, Nat.zero_le _, rfl, .inl ⟨rfl, rfl⟩, fun _ => rfl, (fun x hx => by cases hx), .inl rfl⟩
  · simp at hcs
    subst hcs
    have hz' : zs.length = c := by simpa using hz
    refine ⟨some x, l, c, zs.take l, rfl, hl, hm, by simp; omega, .inr ⟨x, rfl, fun i hi => ?_⟩, (fun h => by cases h), (fun x hx => hwz x (List.mem_of_mem_take hx)), .inr ?_⟩
    · have h1 : i < l := by simp at hi; omega
      rw [hcell i (by omega)]
      simp [List.getD, h1]
    · subst hy
      simp only [DataW.weights, ht, lits, List.length_map, List.length_take, List.length_drop]
      rw [hz', show min l c + (c - l) = c from by omega]
      exact List.mem_cons_self
/-- A struct's cells, field by field: field number i of a struct whose fields are of one cell each. -/
theorem field_read {t : TypeId} {fs : Array Field} (ht : P.underlying t = some (.struct fs)) {fuel : Nat} {cs : List Value} {y : DataW H × List MemPlace} (h : DataW.trod enc P w base (fun _ => true) held fuel t cs = some y) :
    cs.length = P.cellsOf t ∧ ∃ m, ∀ (i : Nat) (f : Field) (c : Value), fs[i]? = some f → P.cellsOf f.type = 1 → cs[f.offset]? = some c → ∃ z, DataW.trod enc P w base (fun _ => true) held m f.type [c] = some z := by
  obtain ⟨xs, m, _, _, hl, hlen, hf⟩ := DataW.trod_struct ht h
  refine ⟨hl, m, fun i f c hfi hc1 hco => ?_⟩
  have hi : i < xs.length := by
    rw [hlen]
    exact (Array.getElem?_eq_some_iff.1 hfi).1
  have h1 := hf i f hfi
  rw [hc1, List.getElem?_eq_getElem hi] at h1
  obtain ⟨hol, hoc⟩ := List.getElem?_eq_some_iff.1 hco
  have e : (cs.drop f.offset).take 1 = [c] := by
    rw [List.drop_eq_getElem_cons hol, hoc]
    rfl
  rw [e] at h1
  exact ⟨_, h1⟩
/-- A slice of structs of n cells each: each element's cells, and that they were read. -/
theorem structs_read {t e : TypeId} (ht : P.underlying t = some (.slice e)) (hpos : 0 < P.cellsOf e) {fuel : Nat} {a0 : Option Addr} {len cap : Nat} {y : DataW H × List MemPlace} (h : DataW.trod enc P w base (fun _ => true) held fuel t [.slice a0 len cap] = some y) :
    len = 0 ∨ ∃ b off n, a0 = some ⟨b, off, none⟩ ∧ b < w.heap.size ∧ len ≤ cap ∧ cap ≤ maxLen ∧ ∀ i, i < len → ∃ cs z, cs.length = P.cellsOf e ∧ (∀ j, j < P.cellsOf e → w.cell? ⟨b, off + i * P.cellsOf e + j, none⟩ = cs[j]?) ∧ DataW.trod enc P w base (fun _ => true) held n e cs = some z := by
  rcases Go.Deep.open_slice ht h with ⟨hcs, _⟩ | ⟨x, l, c, m, n, D, Pl, hcs, _, hl, hm, hmm, _, hel⟩
  · left
    simp at hcs
    exact hcs.2.1
  · simp at hcs
    obtain ⟨rfl, rfl, rfl⟩ := hcs
    by_cases h0 : len = 0
    · exact .inl h0
    right
    have hmc : m = cap := by simpa using hmm
    obtain ⟨b, off, spot⟩ := x
    obtain ⟨cs0, hc0, _⟩ := hel 0 (by omega)
    have q0 := (World.cells?_some hc0).2.2 0 hpos
    have hlen0 := (World.cells?_some hc0).2.1
    have hz : ((⟨b, off, spot⟩ : Addr).add (0 * P.cellsOf e)).add 0 = ⟨b, off, spot⟩ := by simp [Addr.add]
    rw [hz] at q0
    have q1 : w.cell? ⟨b, off, spot⟩ = some (cs0[0]'(by omega)) := by rw [q0]; exact List.getElem?_eq_getElem _
    have hspot : spot = none := by simpa using World.cell?_spot q1
    subst hspot
    refine ⟨b, off, n, rfl, World.block_lt_of_cell? w _ q1, hl, hm, fun i hi => ?_⟩
    obtain ⟨cs, hcs, ht'⟩ := hel i (by omega)
    refine ⟨cs, _, (World.cells?_some hcs).2.1, fun j hj => ?_, ht'⟩
    have hcell := (World.cells?_some hcs).2.2 j hj
    rw [add_none, add_none] at hcell
    exact hcell
end Go.Proofs.YtlfjcihhcphjkaaDoor
/-
  What the reading of an argument says of memory, with what each slice in it weighs. For a new seat: copy as <Name>Weigh.lean; put the Name for 'Seat', also in the import.
-/
namespace Go.Proofs.YtlfjcihhcphjkaaDoor
open Go.ChangeShapes Go.WideShapes Go.ChangeAt Go.RowKit
set_option linter.unusedVariables false

variable {H : Type} {enc : TypeId × Value → H} {P : Program} {w : World} {base : Nat} {held : Bool}

theorem weights_all {e : TypeId} : ∀ {ds : List (DataW H)} {d : DataW H}, d ∈ ds → ∀ n ∈ d.weights P e, n ∈ DataW.weightsAll P e ds
  | [], d, h, _, _ => by cases h
  | x :: r, d, h, n, hn => by
    simp only [DataW.weightsAll, List.mem_append]
    rcases List.mem_cons.1 h with rfl | h
    · exact .inl hn
    · exact .inr (weights_all h n hn)
/-- A struct's cells, field by field. -/
theorem field_weigh {t : TypeId} {fs : Array Field} (ht : P.underlying t = some (.struct fs)) {fuel : Nat} {cs : List Value} {y : DataW H × List MemPlace} (h : DataW.trod enc P w base (fun _ => true) held fuel t cs = some y) :
    cs.length = P.cellsOf t ∧ ∃ m, ∀ (i : Nat) (f : Field) (c : Value), fs[i]? = some f → P.cellsOf f.type = 1 → cs[f.offset]? = some c → ∃ z, DataW.trod enc P w base (fun _ => true) held m f.type [c] = some z ∧ ∀ n ∈ z.1.weights P f.type, n ∈ y.1.weights P t := by
  obtain ⟨xs, m, _, hy, hl, hlen, hf⟩ := DataW.trod_struct ht h
  refine ⟨hl, m, fun i f c hfi hc1 hco => ?_⟩
  have hi : i < xs.length := by
    rw [hlen]
    exact (Array.getElem?_eq_some_iff.1 hfi).1
  have h1 := hf i f hfi
  rw [hc1, List.getElem?_eq_getElem hi] at h1
  obtain ⟨hol, hoc⟩ := List.getElem?_eq_some_iff.1 hco
  have e : (cs.drop f.offset).take 1 = [c] := by
    rw [List.drop_eq_getElem_cons hol, hoc]
    rfl
  rw [e] at h1
  refine ⟨_, h1, fun n hn => ?_⟩
  subst hy
  simp only [DataW.weights, ht]
  refine DataW.weights_mem_each (j := i) (t := f.type) (d := (xs[i]).1) ?_ ?_ n hn
  · rw [List.getElem?_map, Array.getElem?_toList, hfi]; rfl
  · rw [List.getElem?_map, List.getElem?_eq_getElem hi]; rfl
/-- A slice of structs. -/
theorem structs_weigh {t e : TypeId} (ht : P.underlying t = some (.slice e)) (hpos : 0 < P.cellsOf e) {fuel : Nat} {a0 : Option Addr} {len cap : Nat} {y : DataW H × List MemPlace} (h : DataW.trod enc P w base (fun _ => true) held fuel t [.slice a0 len cap] = some y) :
    len = 0 ∨ ∃ b off n, a0 = some ⟨b, off, none⟩ ∧ b < w.heap.size ∧ len ≤ cap ∧ cap ≤ maxLen ∧ ∀ i, i < len → ∃ cs z, cs.length = P.cellsOf e ∧ (∀ j, j < P.cellsOf e → w.cell? ⟨b, off + i * P.cellsOf e + j, none⟩ = cs[j]?) ∧ DataW.trod enc P w base (fun _ => true) held n e cs = some z ∧ ∀ n ∈ z.1.weights P e, n ∈ y.1.weights P t := by
  rcases Go.Deep.open_slice ht h with ⟨hcs, _⟩ | ⟨x, l, c, m, n, D, Pl, hcs, _, hl, hm, hmm, hy, hel⟩
  · left
    simp at hcs
    exact hcs.2.1
  · simp at hcs
    obtain ⟨rfl, rfl, rfl⟩ := hcs
    by_cases h0 : len = 0
    · exact .inl h0
    right
    have hmc : m = cap := by simpa using hmm
    obtain ⟨b, off, spot⟩ := x
    obtain ⟨cs0, hc0, _⟩ := hel 0 (by omega)
    have q0 := (World.cells?_some hc0).2.2 0 hpos
    have hlen0 := (World.cells?_some hc0).2.1
    have hz : ((⟨b, off, spot⟩ : Addr).add (0 * P.cellsOf e)).add 0 = ⟨b, off, spot⟩ := by simp [Addr.add]
    rw [hz] at q0
    have q1 : w.cell? ⟨b, off, spot⟩ = some (cs0[0]'(by omega)) := by rw [q0]; exact List.getElem?_eq_getElem _
    have hspot : spot = none := by simpa using World.cell?_spot q1
    subst hspot
    refine ⟨b, off, n, rfl, World.block_lt_of_cell? w _ q1, hl, hm, fun i hi => ?_⟩
    obtain ⟨cs, hcs, ht'⟩ := hel i (by omega)
    refine ⟨cs, _, (World.cells?_some hcs).2.1, fun j hj => ?_, ht', fun k hk => ?_⟩
    · have hcell := (World.cells?_some hcs).2.2 j hj
      rw [add_none, add_none] at hcell
      exact hcell
    · subst hy
      simp only [DataW.weights, ht, List.mem_cons, List.mem_append]
      exact .inr (.inl (weights_all (d := D i) (List.mem_map.2 ⟨i, List.mem_range.2 hi, rfl⟩) k hk))
end Go.Proofs.YtlfjcihhcphjkaaDoor
/- What the reading of a schema says of memory. -/
namespace Go.Proofs.YtlfjcihhcphjkaaDoor
open Go.ChangeShapes Go.WideShapes Go.ChangeAt Go.RowKit
set_option linter.unusedVariables false

variable {H : Type} {enc : TypeId × Value → H} {w : World} {base : Nat} {held : Bool}
theorem len2R {cs : List Value} (h : cs.length = 2) : ∃ c0 c1, cs = [c0, c1] := by
  match cs, h with
  | [c0, c1], _ => exact ⟨c0, c1, rfl⟩
theorem len3R {cs : List Value} (h : cs.length = 3) : ∃ c0 c1 c2, cs = [c0, c1, c2] := by
  match cs, h with
  | [c0, c1, c2], _ => exact ⟨c0, c1, c2, rfl⟩
theorem len4R {cs : List Value} (h : cs.length = 4) : ∃ c0 c1 c2 c3, cs = [c0, c1, c2, c3] := by
  match cs, h with
  | [c0, c1, c2, c3], _ => exact ⟨c0, c1, c2, c3, rfl⟩
theorem cellsPt : Tryd.prog.cellsOf 67 = 3 := by kernel_rfl
theorem cellsTy : Tryd.prog.cellsOf 64 = 4 := by kernel_rfl
theorem cellsRt : Tryd.prog.cellsOf 69 = 2 := by kernel_rfl
theorem cellsSc : Tryd.prog.cellsOf 25 = 2 := by kernel_rfl
theorem bytesPt : Tryd.prog.bytesOf 67 = 32 := by kernel_rfl
theorem bytesTy : Tryd.prog.bytesOf 64 = 48 := by kernel_rfl
theorem bytesRt : Tryd.prog.bytesOf 69 = 24 := by kernel_rfl
theorem slice_weightR {P : Program} {t e : TypeId} (ht : P.underlying t = some (.slice e)) {fuel : Nat} {a0 : Option Addr} {len cap : Nat} {y : DataW H × List MemPlace} (h : DataW.trod enc P w base (fun _ => true) held fuel t [.slice a0 len cap] = some y) : len = 0 ∨ ∃ k, len ≤ k ∧ k * P.bytesOf e ∈ y.1.weights P t := by
  rcases Go.Deep.open_slice ht h with ⟨hcs, _⟩ | ⟨x, l, c, m, n, D, Pl, hcs, _, hl, hm, hmm, hy, hel⟩
  · left
    simp at hcs
    exact hcs.2.1
  · simp at hcs
    obtain ⟨rfl, rfl, rfl⟩ := hcs
    right
    subst hy
    simp only [DataW.weights, ht]
    refine ⟨_, ?_, List.mem_cons_self⟩
    simp
theorem slice_formR {P : Program} {t e : TypeId} (ht : P.underlying t = some (.slice e)) {fuel : Nat} {c : Value} {y : DataW H × List MemPlace} (h : DataW.trod enc P w base (fun _ => true) held fuel t [c] = some y) : ∃ a n cap, c = .slice a n cap ∧ n ≤ cap ∧ (a = none → cap = 0) ∧ n ≤ maxLen := by
  rcases Go.Deep.open_slice ht h with ⟨hcs, _⟩ | ⟨x, l, c', m, n, D, Pl, hcs, _, hl, hm, _⟩
  · simp at hcs
    exact ⟨none, 0, 0, hcs, Nat.le_refl _, fun _ => rfl, Nat.zero_le _⟩
  · simp at hcs
    exact ⟨some x, l, c', hcs, hl, (fun h => by cases h), Nat.le_trans hl hm⟩
theorem list_ofR {α : Type} (n : Nat) (Q : Nat → α → Prop) (h : ∀ i, i < n → ∃ x, Q i x) : ∃ l : List α, l.length = n ∧ ∀ i x, l[i]? = some x → Q i x := by
  induction n with
  | zero => exact ⟨[], rfl, fun i x h => by simp at h⟩
  | succ n ih =>
    obtain ⟨l, h1, h2⟩ := ih (fun i hi => h i (by omega))
    obtain ⟨x, hx⟩ := h n (by omega)
    refine ⟨l ++ [x], by simp [h1], fun i y hy => ?_⟩
    rcases Nat.lt_or_ge i l.length with hi | hi
    · rw [List.getElem?_append_left hi] at hy; exact h2 i y hy
    · rw [List.getElem?_append_right hi] at hy
      have h0 : i - l.length = 0 := by have := (List.getElem?_eq_some_iff.1 hy).1; simpa using this
      rw [h0] at hy
      simp at hy
      subst hy
      obtain rfl : i = n := by omega
      exact hx
theorem part_open {fuel : Nat} {cs : List Value} {y : DataW H × List MemPlace} (h : DataW.trod enc Tryd.prog w base (fun _ => true) held fuel 67 cs = some y) : ∃ x : Pt, cs = ptc x := by
  obtain ⟨hl, m, hf⟩ := field_read Tryd.underlying67 h
  rw [cellsPt] at hl
  obtain ⟨c0, c1, c2, rfl⟩ := len3R hl
  obtain ⟨y0, t0⟩ := hf 0 _ c0 rfl (by kernel_rfl) rfl
  obtain ⟨y1, t1⟩ := hf 1 _ c1 rfl (by kernel_rfl) rfl
  obtain ⟨y2, t2⟩ := hf 2 _ c2 rfl (by kernel_rfl) rfl
  obtain ⟨a0, k0, _, _⟩ := DataW.trod_string Tryd.underlying9 t0
  obtain ⟨a1, k1, _, _⟩ := DataW.trod_int Tryd.underlying3 t1
  obtain ⟨a2, k2, _, _⟩ := DataW.trod_int Tryd.underlying3 t2
  simp at k0 k1 k2
  subst k0 k1 k2
  exact ⟨⟨a0, a1, a2⟩, rfl⟩
theorem root_open {fuel : Nat} {cs : List Value} {y : DataW H × List MemPlace} (h : DataW.trod enc Tryd.prog w base (fun _ => true) held fuel 69 cs = some y) : ∃ x : Rt, cs = rtc x := by
  obtain ⟨hl, m, hf⟩ := field_read Tryd.underlying69 h
  rw [cellsRt] at hl
  obtain ⟨c0, c1, rfl⟩ := len2R hl
  obtain ⟨y0, t0⟩ := hf 0 _ c0 rfl (by kernel_rfl) rfl
  obtain ⟨y1, t1⟩ := hf 1 _ c1 rfl (by kernel_rfl) rfl
  obtain ⟨a0, k0, _, _⟩ := DataW.trod_string Tryd.underlying9 t0
  obtain ⟨a1, k1, _, _⟩ := DataW.trod_int Tryd.underlying3 t1
  simp at k0 k1
  subst k0 k1
  exact ⟨⟨a0, a1⟩, rfl⟩
theorem parts_open {fuel : Nat} {c : Value} {y : DataW H × List MemPlace} (h : DataW.trod enc Tryd.prog w base (fun _ => true) held fuel 62 [c] = some y) (hw : ∀ k ∈ y.1.weights Tryd.prog 62, k ≤ 140737488351232) :
    ∃ a cap l, c = .slice a l.length cap ∧ l.length ≤ cap ∧ (a = none → cap = 0) ∧ PRow w a l ∧ l.length ≤ 4398046511104 := by
  obtain ⟨a, n, cap, rfl, hc, hz, _⟩ := slice_formR Tryd.underlying62 h
  have hb : n ≤ 4398046511104 := by
    rcases slice_weightR Tryd.underlying62 h with h0 | ⟨k, h1, h2⟩
    · omega
    · have := hw _ h2
      rw [bytesPt] at this
      omega
  rcases structs_read Tryd.underlying62 (by rw [cellsPt]; omega) h with h0 | ⟨b, off, m, rfl, hbl, hlc, hcm, hel⟩
  · subst h0
    exact ⟨a, cap, [], rfl, hc, hz, .inl rfl, by simp⟩
  · rw [cellsPt] at hel
    obtain ⟨N, hN, hQ⟩ := list_ofR n (fun i (x : Pt) => ∀ j, j < 3 → w.cell? ⟨b, off + i * 3 + j, none⟩ = (ptc x)[j]?) (fun i hi => by
      obtain ⟨cs, z, _, hcell, ht⟩ := hel i hi
      obtain ⟨x, rfl⟩ := part_open ht
      exact ⟨x, hcell⟩)
    subst hN
    exact ⟨some ⟨b, off, none⟩, cap, N, rfl, hc, hz, .inr ⟨b, off, rfl, hbl, fun i x hx => hQ i x hx⟩, hb⟩
theorem roots_open {fuel : Nat} {c : Value} {y : DataW H × List MemPlace} (h : DataW.trod enc Tryd.prog w base (fun _ => true) held fuel 23 [c] = some y) (hw : ∀ k ∈ y.1.weights Tryd.prog 23, k ≤ 140737488351232) :
    ∃ a cap l, c = .slice a l.length cap ∧ l.length ≤ cap ∧ (a = none → cap = 0) ∧ RRow w a l ∧ l.length ≤ 5864062014806 := by
  obtain ⟨a, n, cap, rfl, hc, hz, _⟩ := slice_formR Tryd.underlying23 h
  have hb : n ≤ 5864062014806 := by
    rcases slice_weightR Tryd.underlying23 h with h0 | ⟨k, h1, h2⟩
    · omega
    · have := hw _ h2
      rw [bytesRt] at this
      omega
  rcases structs_read Tryd.underlying23 (by rw [cellsRt]; omega) h with h0 | ⟨b, off, m, rfl, hbl, hlc, hcm, hel⟩
  · subst h0
    exact ⟨a, cap, [], rfl, hc, hz, .inl rfl, by simp⟩
  · rw [cellsRt] at hel
    obtain ⟨N, hN, hQ⟩ := list_ofR n (fun i (x : Rt) => ∀ j, j < 2 → w.cell? ⟨b, off + i * 2 + j, none⟩ = (rtc x)[j]?) (fun i hi => by
      obtain ⟨cs, z, _, hcell, ht⟩ := hel i hi
      obtain ⟨x, rfl⟩ := root_open ht
      exact ⟨x, hcell⟩)
    subst hN
    exact ⟨some ⟨b, off, none⟩, cap, N, rfl, hc, hz, .inr ⟨b, off, rfl, hbl, fun i x hx => hQ i x hx⟩, hb⟩
/-- What may be copied. -/
def WtT (T : List Ty) : Prop := T.length ≤ 2932031007401 ∧ ∀ t ∈ T, t.ps.length ≤ 4398046511104
theorem WtT.lens {T : List Ty} (h : WtT T) : LensT T := ⟨by have := h.1; omega, fun t ht => by have := h.2 t ht; omega⟩
theorem type_open {fuel : Nat} {cs : List Value} {y : DataW H × List MemPlace} (h : DataW.trod enc Tryd.prog w base (fun _ => true) held fuel 64 cs = some y) (hw : ∀ k ∈ y.1.weights Tryd.prog 64, k ≤ 140737488351232) :
    ∃ (t : Ty) (va : Option Addr) (vc : Nat), cs = tyc t (.slice va t.ps.length vc) ∧ t.ps.length ≤ vc ∧ (va = none → vc = 0) ∧ PRow w va t.ps ∧ t.ps.length ≤ 4398046511104 := by
  obtain ⟨hl, m, hf⟩ := field_weigh Tryd.underlying64 h
  rw [cellsTy] at hl
  obtain ⟨c0, c1, c2, c3, rfl⟩ := len4R hl
  obtain ⟨y0, t0, _⟩ := hf 0 _ c0 rfl (by kernel_rfl) rfl
  obtain ⟨y1, t1, _⟩ := hf 1 _ c1 rfl (by kernel_rfl) rfl
  obtain ⟨y2, t2, _⟩ := hf 2 _ c2 rfl (by kernel_rfl) rfl
  obtain ⟨y3, t3, u3⟩ := hf 3 _ c3 rfl (by kernel_rfl) rfl
  obtain ⟨a0, k0, _, _⟩ := DataW.trod_int Tryd.underlying3 t0
  obtain ⟨a1, k1, _, _⟩ := DataW.trod_int Tryd.underlying3 t1
  obtain ⟨a2, k2, _, _⟩ := DataW.trod_int Tryd.underlying3 t2
  obtain ⟨va, vc, N, rfl, e1, e2, e3, e4⟩ := parts_open t3 (fun k hk => hw k (u3 k hk))
  simp at k0 k1 k2
  subst k0 k1 k2
  exact ⟨⟨a0, a1, a2, N⟩, va, vc, rfl, e1, e2, e3, e4⟩
theorem types_open {fuel : Nat} {c : Value} {y : DataW H × List MemPlace} (h : DataW.trod enc Tryd.prog w base (fun _ => true) held fuel 22 [c] = some y) (hw : ∀ k ∈ y.1.weights Tryd.prog 22, k ≤ 140737488351232) :
    ∃ a cap T, c = .slice a T.length cap ∧ T.length ≤ cap ∧ (a = none → cap = 0) ∧ TRow w a T ∧ WtT T := by
  obtain ⟨a, n, cap, rfl, hc, hz, _⟩ := slice_formR Tryd.underlying22 h
  have hb : n ≤ 2932031007401 := by
    rcases slice_weightR Tryd.underlying22 h with h0 | ⟨k, h1, h2⟩
    · omega
    · have := hw _ h2
      rw [bytesTy] at this
      omega
  rcases structs_weigh Tryd.underlying22 (by rw [cellsTy]; omega) h with h0 | ⟨b, off, m, rfl, hbl, hlc, hcm, hel⟩
  · subst h0
    exact ⟨a, cap, [], rfl, hc, hz, .inl rfl, by simp, fun d hd => by cases hd⟩
  · rw [cellsTy] at hel
    obtain ⟨D, hD, hQ⟩ := list_ofR n (fun i (d : Ty) => d.ps.length ≤ 4398046511104 ∧ ∃ va vc, (∀ j, j < 4 → w.cell? ⟨b, off + i * 4 + j, none⟩ = (tyc d (.slice va d.ps.length vc))[j]?) ∧ d.ps.length ≤ vc ∧ (va = none → vc = 0) ∧ PRow w va d.ps) (fun i hi => by
      obtain ⟨cs, z, _, hcell, ht, hzz⟩ := hel i hi
      obtain ⟨d, va, vc, rfl, e1, e2, e3, e4⟩ := type_open ht (fun k hk => hw k (hzz k hk))
      exact ⟨d, e4, va, vc, hcell, e1, e2, e3⟩)
    subst hD
    refine ⟨some ⟨b, off, none⟩, cap, D, rfl, hc, hz, .inr ⟨b, off, rfl, hbl, fun i d hd => (hQ i d hd).2⟩, hb, fun d hd => ?_⟩
    obtain ⟨i, hi, rfl⟩ := List.getElem_of_mem hd
    exact (hQ i _ (List.getElem?_eq_getElem hi)).1
theorem schema_open {fuel : Nat} {cs : List Value} {y : DataW H × List MemPlace} (h : DataW.trod enc Tryd.prog w base (fun _ => true) held fuel 25 cs = some y) (hw : ∀ k ∈ y.1.weights Tryd.prog 25, k ≤ 140737488351232) :
    ∃ a cap T ar cr R, cs = [.slice a T.length cap, .slice ar R.length cr] ∧ T.length ≤ cap ∧ (a = none → cap = 0) ∧ TRow w a T ∧ WtT T ∧ R.length ≤ cr ∧ (ar = none → cr = 0) ∧ RRow w ar R ∧ R.length ≤ 5864062014806 := by
  obtain ⟨hl, m, hf⟩ := field_weigh Tryd.underlying25 h
  rw [cellsSc] at hl
  obtain ⟨c0, c1, rfl⟩ := len2R hl
  obtain ⟨y0, t0, u0⟩ := hf 0 _ c0 rfl (by kernel_rfl) rfl
  obtain ⟨y1, t1, u1⟩ := hf 1 _ c1 rfl (by kernel_rfl) rfl
  obtain ⟨a, cap, T, rfl, e1, e2, e3, e4⟩ := types_open t0 (fun k hk => hw k (u0 k hk))
  obtain ⟨ar, cr, R, rfl, f1, f2, f3, f4⟩ := roots_open t1 (fun k hk => hw k (u1 k hk))
  exact ⟨a, cap, T, ar, cr, R, rfl, e1, e2, e3, e4, f1, f2, f3, f4⟩
end Go.Proofs.YtlfjcihhcphjkaaDoor
/- TypingKids, out of its walk. The frame round the walk is that of the tool proof-skeleton. -/
namespace Go.Proofs.YtlfjcihhcphjkaaDoor.typingKids
open Go.ChangeMaps Go.ChangeShapes Go.WideShapes Go.ChangeAt Go.RowKit
set_option linter.unusedVariables false

theorem own : ownKnob Tryd.prog.godebug = none := by kernel_rfl
theorem laidOut : laidOutB Tryd.prog = true := by kernel_rfl
theorem cellsI : Tryd.prog.cellsOf 3 = 1 := by kernel_rfl
theorem bytesI : Tryd.prog.bytesOf 3 = 8 := by kernel_rfl
theorem cellsNd : Tryd.prog.cellsOf 49 = 3 := by kernel_rfl
theorem gK : Tryd.prog.globalNamed "mortise/typing.nodeKinds" = some 0 := by kernel_rfl
theorem gKT : (Tryd.prog.globals[0]?).map (·.type) = some 83 := by kernel_rfl
theorem cellsK : Tryd.prog.cellsOf 83 = 9 := by kernel_rfl
theorem laid_k : (Rows.laid_mortise_typing_nodeKinds : DataW Unit) = Lib.tabData .i64 nkT := by kernel_rfl
theorem tab_of {W : World} (h : laidMetH Tryd.prog Rows.typingKidsRow.laid W) : Tab W := by
  have h1 : laidMet Tryd.prog [("mortise/typing.nodeKinds", Rows.laid_mortise_typing_nodeKinds)] W := h
  rw [laid_k] at h1
  have h3 := Lib.tabIs_of_head (e := 3) gK gKT (by kernel_rfl) (by kernel_rfl) (by kernel_rfl) cellsK h1
  exact ⟨World.block_lt_of_cell? W _ (h3.cell gK 0 (by decide)), fun i hi => h3.cell gK i (by simpa [nkT] using hi)⟩
/-- The settled world w, the table (block 0) holding what its initialiser lays. -/
def laidIn (w : World) : World :=
  { w with heap := w.heap.modify 0 fun
      | .cells _ t frozen => .cells (nkT.map fun z => Value.int .i64 z).toArray t frozen
      | o => o }
theorem node_open {H : Type} {enc : TypeId × Value → H} {w : World} {base : Nat} {held : Bool} {fuel : Nat} {cs : List Value} {y : DataW H × List MemPlace} (h : DataW.trod enc Tryd.prog w base (fun _ => true) held fuel 49 cs = some y) : ∃ x : Nv, cs = nvc x ∧ NvOk x := by
  obtain ⟨hl, m, hf⟩ := field_read Tryd.underlying49 h
  rw [cellsNd] at hl
  obtain ⟨c0, c1, c2, rfl⟩ := len3R hl
  obtain ⟨y0, t0⟩ := hf 0 _ c0 rfl (by kernel_rfl) rfl
  obtain ⟨y1, t1⟩ := hf 1 _ c1 rfl (by kernel_rfl) rfl
  obtain ⟨y2, t2⟩ := hf 2 _ c2 rfl (by kernel_rfl) rfl
  obtain ⟨a0, k0, _, _⟩ := DataW.trod_int Tryd.underlying3 t0
  obtain ⟨a1, k1, hw1, _⟩ := DataW.trod_int Tryd.underlying47 t1
  obtain ⟨a2, k2, _, _⟩ := DataW.trod_int Tryd.underlying3 t2
  simp at k0 k1 k2
  subst k0 k1 k2
  refine ⟨⟨a0, a1, a2⟩, rfl, ?_⟩
  have h64 : (Lit.int .u64 a1).wf = true := by first | assumption | exact hw1.1 | exact hw1
  have h65 : IntKind.u64.min ≤ a1 ∧ a1 ≤ IntKind.u64.max := by simpa [Lit.wf] using h64
  have e1 : IntKind.u64.min = 0 := by decide
  have e2 : IntKind.u64.max = 18446744073709551615 := by decide
  rw [e1, e2] at h65
  exact ⟨by show 0 ≤ a1; omega, by show a1 < _; omega⟩
theorem bound8 {cap : Nat} {l : List Nat} (h : cap = 0 ∨ cap * Tryd.prog.bytesOf 3 ∈ l) (hl : ∀ n ∈ l, n ≤ 140737488351232) : cap ≤ 17592186043904 := by
  rcases h with h | h
  · omega
  · have := hl _ h
    rw [bytesI] at this
    omega
set_option maxRecDepth 100000 in
theorem contract (H : Type) (enc : TypeId × Value → H) (W : World) (base : Nat) (args : Array Value) (ds gs : List (DataW H)) (before : List MemPlace)
    (hval : ∀ (j : Nat) t v, Tryd.f5.params[j]? = some t → args[j]? = some v → Value.okWide Tryd.prog W .any base t v)
    (hW : DataW.Whole enc Tryd.prog Tryd.f5.params.toList Rows.typingKidsSpec.vars false W args.toList ds gs before) (hsz0 : (DataW.weightsEach Tryd.prog (Tryd.f5.params.toList ++ Rows.typingKidsSpec.plain.varTypes Tryd.prog) (ds ++ gs)).all (· ≤ reachBytes) = true) (hL : laidMetH Tryd.prog Rows.typingKidsRow.laid W) :
    Calls Tryd.prog 5 args W fun e W' => ∃ v, e = .returned v ∧ Rows.typingKidsSpec.post enc Tryd.prog Tryd.f5 false true false false W args v W' := by
  have hsz := hsz0
  have hW' := hW
  obtain ⟨p, q, hA0, hV, rfl, hfz, hnd⟩ := hW
  have hA : DataW.TrodAll enc Tryd.prog W 0 (fun _ => true) true Tryd.f5.params.toList args.toList ds p := hA0
  rw [Tryd.params5] at hA hval hsz
  obtain ⟨v0, vs0, d0, ds0, p0, q0, hargs, rfl, rfl, h0, r0⟩ := trodAll_cons hA
  obtain ⟨v1, vs1, d1, ds1, p1, q1, rfl, rfl, rfl, h1, r1⟩ := trodAll_cons r0
  obtain ⟨v2, vs2, d2, ds2, p2, q2, rfl, rfl, rfl, h2, r2⟩ := trodAll_cons r1
  obtain ⟨v3, vs3, d3, ds3, p3, q3, rfl, rfl, rfl, h3, r3⟩ := trodAll_cons r2
  obtain ⟨v4, vs4, d4, ds4, p4, q4, rfl, rfl, rfl, h4, r4⟩ := trodAll_cons r3
  obtain ⟨rfl, rfl, rfl⟩ := trodAll_nil r4
  obtain rfl : args = #[v0, v1, v2, v3, v4] := by cases args; simp_all
  obtain ⟨rfl, rfl⟩ := trodVars_none hV
  obtain ⟨cs0, rfl, _⟩ := okWide_struct Tryd.underlying25 (hval 0 25 v0 rfl rfl)
  obtain ⟨a2, len2, cap2, rfl⟩ := okWide_slice Tryd.underlying26 (hval 2 26 v2 rfl rfl)
  obtain ⟨cs4, rfl, _⟩ := okWide_struct Tryd.underlying49 (hval 4 49 v4 rfl rfl)
  obtain ⟨n1, rfl, rfl, rfl, w1⟩ := open_int Tryd.underlying3 (hval 1 3 v1 rfl rfl) h1
  obtain ⟨n3, rfl, rfl, rfl, w3⟩ := open_int Tryd.underlying3 (hval 3 3 v3 rfl rfl) h3
  have k0 := h0
  have lt0 : ∀ x ∈ p0, x.block < W.heap.size := by obtain ⟨m, hm⟩ := k0; exact DataW.trod_lt m _ _ _ hm
  have k2 := h2
  have lt2 : ∀ x ∈ p2, x.block < W.heap.size := by obtain ⟨m, hm⟩ := k2; exact DataW.trod_lt m _ _ _ hm
  have k4 := h4
  have lt4 : ∀ x ∈ p4, x.block < W.heap.size := by obtain ⟨m, hm⟩ := k4; exact DataW.trod_lt m _ _ _ hm
  have walk : Calls Tryd.prog 5 #[.agg cs0, .int .i64 n1, .slice a2 len2 cap2, .int .i64 n3, .agg cs4] W fun e w' => e = .returned (.bool true) ∧ Below W.heap.size W w' := by
    obtain ⟨f0, hf0⟩ := h0
    obtain ⟨f2, hf2⟩ := h2
    obtain ⟨f4, hf4⟩ := h4
    have reach : ∀ (n : Nat), decide (n ≤ reachBytes) = true → n ≤ 140737488351232 := fun n hm => by
      have hm2 : n ≤ reachBytes := of_decide_eq_true hm
      rw [show reachBytes = 140737488351232 from rfl] at hm2
      exact hm2
    obtain ⟨b2, m2, c2, l2, e2, hnc2, hcm2, hl2, hrow2, hnil2, -, hw2⟩ := row_weigh Tryd.underlying26 Tryd.underlying3 cellsI hf2
    injection e2 with e21 e22 e23
    subst e21 e22 e23
    have hc2 := bound8 hw2 (fun n hn => reach n (List.all_eq_true.1 hsz _ (DataW.weights_mem_each (j := 2) rfl rfl _ hn)))
    obtain ⟨a, cap, T, ar, cr, R, hcs, htc, htn, hT, hWt, hrc, hrn, hR, hRl⟩ := schema_open hf0 (fun n hn => reach n (List.all_eq_true.1 hsz _ (DataW.weights_mem_each (j := 0) rfl rfl _ hn)))
    have e0 : cs0 = #[.slice a T.length cap, .slice ar R.length cr] := Array.toList_inj.1 hcs
    subst e0
    obtain ⟨x, hx, hxo⟩ := node_open hf4
    have e4 : cs4 = #[.int .i64 x.k, .int .u64 x.n, .int .i64 x.kids] := Array.toList_inj.1 hx
    subst e4
    subst hl2
    have h1t := hWt.1
    exact kids_any a cap T ar cr R n1 a2 cap2 l2 n3 x W (by omega) (by omega) hrc hrn (hide_ hWt.lens) (hide_ hT) (hide_ hR) (by omega) hnc2 hnil2 (hide_ hrow2) hxo (hide_ (tab_of hL))
  clear hA0
  refine walk.mono fun e W' ⟨he, bel⟩ => ?_
  subst he
  exact ⟨_, rfl, _, _, _, [], _, [], hW', trodAll_mk1 (shut_bool Tryd.underlying4 _), (trodAll_cons_mk (Below.trod laidOut (by kernel_rfl) (of_decide_eq_true (by kernel_rfl)) k0 bel lt0) (trodAll_cons_mk (shut_int Tryd.underlying3 w1) (trodAll_cons_mk (Below.trod laidOut (by kernel_rfl) (of_decide_eq_true (by kernel_rfl)) k2 bel lt2) (trodAll_cons_mk (shut_int Tryd.underlying3 w3) (trodAll_cons_mk (Below.trod laidOut (by kernel_rfl) (of_decide_eq_true (by kernel_rfl)) k4 bel lt4) trodAll_mk0))))), rfl, bel.frame _, fun h => by cases h⟩

def wit : Array Value := #[.agg #[.slice none 0 0, .slice none 0 0], .int .i64 0, .slice none 0 0, .int .i64 0, .agg #[.int .i64 0, .int .u64 0, .int .i64 0]]
theorem laid_met (os : Os) : laidMet Tryd.prog Rows.typingKidsRow.laid ((laidIn (World.holding Tryd.prog os ⟨#[], #[], []⟩)).forCall (fun _ _ => 0) ⟨#[], wit, []⟩).memory :=
  laidMet_of_run' 8 (by kernel_rfl) (by kernel_rfl)
theorem reads (os : Os) {H : Type} (enc : TypeId × Value → H) : ∃ ds places, DataW.whole enc Tryd.prog ((laidIn (World.holding Tryd.prog os ⟨#[], #[], []⟩)).forCall (fun _ _ => 0) ⟨#[], wit, []⟩).memory Tryd.f5.params.toList Rows.typingKidsSpec.vars false wit.toList 8 = some (ds, [], places) :=
  ⟨[.agg [.nil, .nil], .lit (.int .i64 0), .nil, .lit (.int .i64 0), .agg [.lit (.int .i64 0), .lit (.int .u64 0), .lit (.int .i64 0)]], [], by kernel_rfl⟩

set_option maxRecDepth 100000 in
theorem lifted (os : Os) (started : os.Started) (H : Type) (enc : TypeId × Value → H) (F : Stop.Interp) :
    ReturnsInHanded {} Tryd.checked os 5 .any ((OpenSpec.ofChange Rows.typingKidsSpec).preRow enc Tryd.prog Tryd.f5 Rows.typingKidsRow.domain false Rows.typingKidsRow.laid) (((OpenSpec.ofChange Rows.typingKidsSpec).at F).post enc Tryd.prog Tryd.f5 false true false false) := by
  obtain ⟨ds, places, hx⟩ := reads os enc
  refine returnsInHanded_of_row (C := Tryd.checked) (s := OpenSpec.ofChange Rows.typingKidsSpec) own started (by kernel_rfl) Tryd.func5
    (witness_row_at (enc := enc) (C := Tryd.checked) false (laidIn (World.holding Tryd.prog os ⟨#[], #[], []⟩)) wit rfl (by kernel_rfl) (by kernel_rfl) (by kernel_rfl)
      (OpenSpec.preRow_of_cond 8 hx (by kernel_rfl) (fun k hk => by cases hk) (by kernel_rfl) (laid_met os))) ?_
  intro W base args ds gs before hval hW _ _ hsz hL _ _
  exact contract H enc W base args ds gs before hval hW hsz hL

theorem said : Rows.TypingKidsSaid :=
  OpenClaim.holds_of_cond 5 Tryd.f5 rfl rfl rfl rfl rfl rfl rfl ⟨rfl, rfl, rfl, rfl, rfl⟩ rfl rfl rfl rfl rfl (by kernel_rfl) Tryd.func5 (by kernel_rfl)
    (of_decide_eq_true (by kernel_rfl)) (by unfold Func.isWrapper; first | (rw [if_pos (by decide +kernel)]; kernel_rfl) | (rw [if_neg (by decide +kernel)]; exact ⟨rfl, rfl⟩))
    (fun os started H enc _ F => by rw [OpenClaim.pre_eq_preRow]; exact lifted os started H enc F)

theorem plain (f : FuncId) (fn : Func) (hf : Tryd.pinned.checked.prog.funcNamed "mortise/mortiselaw11.TypingKids" = some f) (hfn : Tryd.pinned.checked.prog.funcs[f]? = some fn) :
    false = Tryd.pinned.checked.prog.looks [] ∧ ∀ (j : Nat) t, fn.params[j]? = some t → Tryd.pinned.checked.prog.wantsStandIn t = false := by
  obtain rfl : f = 5 := Option.some.inj ((show Tryd.prog.funcNamed "mortise/mortiselaw11.TypingKids" = some 5 by kernel_rfl).symm.trans hf) |>.symm
  obtain rfl : fn = Tryd.f5 := (Option.some.inj (Tryd.func5.symm.trans hfn)).symm
  refine ⟨by kernel_rfl, fun j t ht => ?_⟩
  rw [Tryd.params5] at ht
  have hm := Array.mem_of_getElem? ht
  simp only [List.mem_toArray, List.mem_cons, List.not_mem_nil, or_false] at hm
  rcases hm with rfl | rfl | rfl | rfl | rfl <;> (show Tryd.prog.wantsStandIn _ = false; kernel_rfl)

theorem card : Rows.TypingKidsCardSaid :=
  Claim7.holds_tied_plain_at .later [] _ _ _ _ said (fun _ h => by cases h) (by kernel_rfl) (fun _ h => by cases h) typingKids_row_tie rfl ⟨rfl, rfl⟩ (by kernel_rfl) rfl plain (by kernel_rfl)
end Go.Proofs.YtlfjcihhcphjkaaDoor.typingKids
namespace Go.Proofs.YtlfjcihhcphjkaaDoor
theorem typingKids_holds : Rows.TypingKidsCardSaid := typingKids.card
#print axioms typingKids_holds
end Go.Proofs.YtlfjcihhcphjkaaDoor
