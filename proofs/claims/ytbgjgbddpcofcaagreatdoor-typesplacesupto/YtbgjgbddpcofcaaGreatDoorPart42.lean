import Derived.Test.YtbgjgbddpcofcaaGreatDoorPart35
import Derived.Test.YtbgjgbddpcofcaaGreatDoorPart32
import Derived.Test.YtbgjgbddpcofcaaGreatDoorPart40
import Derived.Test.YtbgjgbddpcofcaaGreatDoorPart23
import Derived.Test.YtbgjgbddpcofcaaGreatDoorPart22

/- types.Build. -/
namespace Go.Proofs.YtbgjgbddpcofcaaGreatDoor
open Go.RowKit
set_option linter.unusedVariables false

theorem bldSc0 (w : World) : (Instr.build 29 #[]).run Tryz.prog w = .ok (.agg #[.slice none 0 0, .slice none 0 0]) w := by kernel_rfl
theorem bldSc (x y : Option Addr) (n m c d : Nat) (w : World) : (Instr.build 29 #[(0, .slice x n c), (1, .slice y m d)]).run Tryz.prog w = .ok (.agg #[.slice x n c, .slice y m d]) w := by kernel_rfl
theorem bldBd (b : Nat) (w : World) : (Instr.build 63 #[(1, .map (some b))]).run Tryz.prog w = .ok (.agg #[.slice none 0 0, .map (some b), .slice none 0 0]) w := by kernel_rfl
theorem retB {R : Ending → World → Prop} {tmps : Array Value} {g2 g3 : Nat} {w : World} {v0 v1 : Value} {a b : Int} (h2 : tmps.getD 2 undef = .pointer (some ⟨g2, 0, none⟩)) (h3 : tmps.getD 3 undef = .pointer (some ⟨g3, 0, none⟩)) (K2 : Blk w g2 29 [v0, v1]) (K3 : Blk w g3 32 [.int .i64 a, .int .i64 b]) (hR : R (.returned (.tuple #[.agg #[v0, v1], .agg #[.int .i64 a, .int .i64 b]])) w) :
    bodyPost Tryz.prog Tryz.f5 R Exit.ret ⟨tmps, []⟩ w :=
  bodyPost_ret (results_two_cells rfl _ _ _ _ _ _ #[v0, v1] #[.int .i64 a, .int .i64 b] _ _ _ _ h2 K2 h3 K3 Tryz.underlying29 rfl (by show _ = some 2; kernel_rfl) Tryz.underlying32 rfl (by show _ = some 2; kernel_rfl)) rfl hR
theorem wr22z {w : World} {g2 g3 : Nat} {x0 x1 y0 y1 : Value} (h2 : Blk w g2 29 [x0, x1]) (h3 : Blk w g3 32 [y0, y1]) (v0 v1 u0 u1 : Value) :
    Blk ((((w.setCell ⟨g2, 0, none⟩ v0).setCell ⟨g2, 1, none⟩ v1).setCell ⟨g3, 0, none⟩ u0).setCell ⟨g3, 1, none⟩ u1) g2 29 [v0, v1] ∧
    Blk ((((w.setCell ⟨g2, 0, none⟩ v0).setCell ⟨g2, 1, none⟩ v1).setCell ⟨g3, 0, none⟩ u0).setCell ⟨g3, 1, none⟩ u1) g3 32 [u0, u1] := by
  have hne : g2 ≠ g3 := fun e => absurd (blk_type h2 (e ▸ h3)) (by decide)
  exact ⟨((wr2 h2 v0 v1).other _ _ hne).other _ _ hne, wr2 ((h3.other _ _ hne.symm).other _ _ hne.symm) u0 u1⟩
/-- What Build answers, and where. -/
def BuTo (D : List Df) (T : List Ty) (R : List Rt) (E A : Int) (w : World) (e : Ending) (w' : World) : Prop :=
  ∃ x n p y m q, e = .returned (.tuple #[.agg #[.slice x n p, .slice y m q], .agg #[.int .i64 E, .int .i64 A]]) ∧ (∃ Q, TOwn w' w.heap.size (.slice x n p) Q ∧ Q.map (·.1) = T) ∧ ROwn w' w.heap.size (.slice y m q) R ∧ Below w.heap.size w w'
theorem BuTo.nil {D : List Df} {E A : Int} {w w' : World} (hB : Below w.heap.size w w') : BuTo D [] [] E A w (.returned (.tuple #[.agg #[.slice none 0 0, .slice none 0 0], .agg #[.int .i64 E, .int .i64 A]])) w' :=
  ⟨none, 0, 0, none, 0, 0, rfl, ⟨[], ⟨World.ownsRow_nil _ _ _ _, fun p hp => by cases hp⟩, rfl⟩, World.ownsRow_nil _ _ _ _, hB⟩
/-- What is known when the loop over the order has gone round. -/
def LpD (D : List Df) (a : Option Addr) (c : Nat) (o : List Nat) (w : World) (g bm : Nat) (vo : Value) (i : Nat) (wq : World) : Prop :=
  ∃ v Q r, BdM w wq g bm i v Q (bO D (o.take i) (fun _ => none) []).1 r ∧ Q.map (·.1) = (bO D (o.take i) (fun _ => none) []).2 ∧ (∀ s n, (bO D (o.take i) (fun _ => none) []).1 s = some n → n ≤ 1000000000) ∧ Q.length ≤ i * 3900000 ∧
    Blk wq w.heap.size 24 [.slice a D.length c] ∧ Blk wq (w.heap.size + 1) 29 [.slice none 0 0, .slice none 0 0] ∧ Blk wq (w.heap.size + 1 + 1) 32 [.int .i64 0, .int .i64 0] ∧ wq.ownsRow w.heap.size 3 1 vo o.length (cellsL .i64 (natI o))
theorem LpD.step {D : List Df} {a : Option Addr} {c : Nat} {o : List Nat} {w : World} {g bm : Nat} {vo : Value} {i : Nat} {wq w2 : World} {v : Value} {Q : List (Ty × Value)} {r : Value} {n : Nat} {d : Df} {e : Ending}
    (h1 : BdM w wq g bm i v Q (bO D (o.take i) (fun _ => none) []).1 r) (h2 : Q.map (·.1) = (bO D (o.take i) (fun _ => none) []).2) (h3 : ∀ s n, (bO D (o.take i) (fun _ => none) []).1 s = some n → n ≤ 1000000000) (h4 : Q.length ≤ i * 3900000)
    (h5 : Blk wq w.heap.size 24 [.slice a D.length c]) (h6 : Blk wq (w.heap.size + 1) 29 [.slice none 0 0, .slice none 0 0]) (h7 : Blk wq (w.heap.size + 1 + 1) 32 [.int .i64 0, .int .i64 0]) (h8 : wq.ownsRow w.heap.size 3 1 vo o.length (cellsL .i64 (natI o)))
    (hi : i ≤ 255) (hn : o[i]? = some n) (hd : D[n]? = some d) (hF : Forest d.ty.length 0 0 1 d.ty) (hty : d.ty.length ≤ 3900000) (hTo : DfTo w g bm i (bO D (o.take i) (fun _ => none) []).1 d v Q wq e w2) : LpD D a c o w g bm vo (i + 1) w2 := by
  obtain ⟨rfl, v', Q', r', b1, b2, b3⟩ := hTo
  have hil := (List.getElem?_eq_some_iff.1 hn).1
  have hto : o.take (i + 1) = o.take i ++ [n] := by
    rw [List.take_succ_eq_append_getElem hil, (List.getElem?_eq_some_iff.1 hn).2]
  have hgd : D.getD n ⟨⟨#[]⟩, 0, []⟩ = d := by simp [List.getD, hd]
  have hbo : bO D (o.take (i + 1)) (fun _ => none) [] = bD (bO D (o.take i) (fun _ => none) []).1 (Q.map (·.1)) d := by
    rw [hto, bO_snoc, hgd, ← h2]
  have hsm := bD_small (T := Q.map (·.1)) (c := 1000000000) hF h3 (by simp; omega)
  have key : ∀ k t ys, Blk wq k t ys → t ≠ 63 → t ≠ 49 → ¬ (k = g ∨ v.ownBlock = some k ∨ k = bm) := fun k t ys hk ht1 ht2 e => by
    rcases e with e | e | e
    · subst e; exact ht1 (blk_type hk h1.1)
    · obtain ⟨-, -, zs, hz⟩ := h1.own e
      exact ht2 (blk_type hk hz)
    · subst e; exact h1.2.2.1.ne hk rfl
  refine ⟨v', Q', r', by rw [hbo]; exact b1, by rw [hbo]; exact b2, by rw [hbo]; exact hsm.1, ?_, h5.upd b3 (key _ _ _ h5 (by decide) (by decide)), h6.upd b3 (key _ _ _ h6 (by decide) (by decide)), h7.upd b3 (key _ _ _ h7 (by decide) (by decide)), ownS_upd h8 b3 (fun k hk => ?_)⟩
  · have h9 := congrArg List.length b2
    have h10 := hsm.2
    simp only [List.length_map] at h9 h10
    omega
  · obtain ⟨ys, hy⟩ := ownS_type h8 hk
    exact key _ _ _ hy (by decide) (by decide)
set_option maxRecDepth 100000 in
set_option maxHeartbeats 16000000 in
theorem build_any {D : List Df} {T : List Ty} {R : List Rt} {E A : Int} (h : Hid (BlTo D T R E A)) (a : Option Addr) (c : Nat) (w : World) (hW : Hid (Wt D)) (hty : Hid (∀ d ∈ D, d.ty.length ≤ 3900000)) (r : Hid (DRow w a D)) :
    Calls Tryz.prog 5 #[.agg #[.slice a D.length c]] w fun e w' => BuTo D T R E A w e w' := by
  obtain ⟨w1, hw1⟩ : ∃ w1, w1 = ((w.alloc (.cells #[.slice a D.length c] 24)).alloc (.cells #[.slice none 0 0, .slice none 0 0] 29)).alloc (.cells #[.int .i64 0, .int .i64 0] 32) := ⟨_, rfl⟩
  have HB1 : Hid (Below w.heap.size w w1) := by rw [hw1]; exact (((Below.refl _ _).alloc (Nat.le_refl _) _).alloc (by simp) _).alloc (by simp; omega) _
  have K1 : Hid (Blk w1 w.heap.size 24 [.slice a D.length c]) := by rw [hw1]; exact ((Blk.newA w #[.slice a D.length c] 24).alloc _).alloc _
  have K2 : Hid (Blk w1 (w.heap.size + 1) 29 [.slice none 0 0, .slice none 0 0]) := hide_ (by
    have h := (Blk.newA (w.alloc (.cells #[.slice a D.length c] 24)) #[.slice none 0 0, .slice none 0 0] 29).alloc (.cells #[.int .i64 0, .int .i64 0] 32)
    rw [← hw1, World.size_alloc] at h
    exact h)
  have K3 : Hid (Blk w1 (w.heap.size + 1 + 1) 32 [.int .i64 0, .int .i64 0]) := hide_ (by
    have h := Blk.newA ((w.alloc (.cells #[.slice a D.length c] 24)).alloc (.cells #[.slice none 0 0, .slice none 0 0] 29)) #[.int .i64 0, .int .i64 0] 32
    rw [← hw1, World.size_alloc, World.size_alloc] at h
    exact h)
  have HC := hide_ (check_any a c D w1 (hide_ (Wt.lens hW.out)) (hide_ (r.out.later HB1.out)))
  go_enter Tryz.func5, Tryz.ntmps5
  go_upto_region 1 with fail
  rw [← hw1]
  clear hw1
  have c1 := K1.out.cell 0
  simp at c1
  go_upto_region 2 with (go_at_call 12; refine HC.out.mono ?_; rintro e w2 ⟨rfl, hB2⟩)
  clear c1 HC
  have HB2 := hide_ (below_to HB1.out hB2)
  have K1b := hide_ (K1.out.later hB2)
  have K2b := hide_ (K2.out.later hB2)
  have K3b := hide_ (K3.out.later hB2)
  clear hB2 HB1 K1 K2 K3
  have f0 := bldF0; have g0 := bldSc0; have ge := bldFe
  by_cases hck : (ckP D).2.2 = 0
  · have he : ((ckP D).2.2 != 0) = false := by simp [hck]
    obtain ⟨hD, hok⟩ := df_ok hck hW.out
    have HOK := hide_ hok
    have HFo := hide_ (ckP_all hck).2
    obtain ⟨E1, A1, o, ds, hLk, hrest⟩ : ∃ E1 A1 o ds, LookTo D E1 A1 o ds ∧
      (if E1 = 0 ∧ A1 = 0 then
        (if (lbD D).1 = 0 then T = (bO D o (fun _ => none) []).2 ∧ R = rtsP D (bO D o (fun _ => none) []).1 ∧ E = 0 ∧ A = 0
        else T = [] ∧ R = [] ∧ E = (lbD D).1 ∧ A = (lbD D).2)
      else T = [] ∧ R = [] ∧ E = E1 ∧ A = A1) := by
      have h9 := h.out
      unfold BlTo at h9
      rw [if_pos hck] at h9
      exact h9
    have HLk := hide_ hLk
    have HRs := hide_ hrest
    clear h hok hrest
    have HC2 := hide_ (nOrder_any hLk a c w2 hW (hide_ (r.out.later HB2.out)))
    have c1 := K1b.out.cell 0
    simp at c1
    clear hLk hck
    go_upto_region 5 with (go_at_call 13; refine HC2.out.mono ?_; rintro e w3 ⟨xo, no, po, rfl, HO3, HB3⟩)
    clear c1 HC2 he
    have k8 := Blk.newA w3 #[.int .i64 E1, .int .i64 A1] 32
    obtain ⟨w4, hw4⟩ : ∃ w4, w4 = w3.alloc (.cells #[.int .i64 E1, .int .i64 A1] 32) := ⟨_, rfl⟩
    have hB4 : Below w3.heap.size w3 w4 := by rw [hw4]; exact below1 _ _
    rw [← hw4] at k8
    have hB34 := below_to HB3.out hB4
    have K1c := hide_ (K1b.out.later hB34)
    have K2c := hide_ (K2b.out.later hB34)
    have K3c := hide_ (K3b.out.later hB34)
    have HB4 := hide_ (below_to HB2.out hB34)
    have HO4 : Hid (w4.ownsRow w.heap.size 3 1 (.slice xo no po) o.length (cellsL .i64 (natI o))) := hide_ (ownS_upd (own_base HO3.out HB2.out.size) (Upd.of_below (S := fun _ => False) hB4) (fun _ _ h => h))
    have K8 := hide_ k8
    have hg8 : w.heap.size ≤ w3.heap.size := (below_to HB2.out HB3.out).size
    have hs3 : w.heap.size + 1 + 1 < w3.heap.size := by have h1 := K3b.out.lt; have h2 := HB3.out.size; omega
    rw [← hw4]
    clear hw4 hB4 hB34 HB3 HB2 HO3 k8 K1b K2b K3b
    have d0 := K8.out.cell 0; have d1 := K8.out.cell 1
    simp at d0 d1
    by_cases hE : E1 = 0 ∧ A1 = 0
    · obtain ⟨rfl, rfl⟩ := hE
      have c1 := K1c.out.cell 0
      simp at c1
      have z0 := K8.out.frozen 0; have z1 := K8.out.frozen 1
      have HC3 := hide_ (bounds_any a c D w4 (hide_ (Wt.lens hW.out)) (hide_ (r.out.later HB4.out)))
      obtain ⟨L, hL⟩ : ∃ L, lbD D = L := ⟨_, rfl⟩
      rw [hL] at HC3 HRs
      have HL := hide_ hL
      clear hL
      obtain ⟨L1, L2⟩ := L
      dsimp only at HC3
      go_upto_region 8 with (go_at_call 14; refine HC3.out.mono ?_; rintro e w5 ⟨rfl, HB5⟩; have K8e := hide_ (K8.out.later HB5.out); have d0e := K8e.out.cell 0; have d1e := K8e.out.cell 1; have z0e := K8e.out.frozen 0; have z1e := K8e.out.frozen 1; simp at d0e d1e)
      clear HC3 d0 d1 z0 z1 d0e d1e z0e z1e c1
      obtain ⟨w6, hw6⟩ : ∃ wx, wx = (w5.setCell ⟨w3.heap.size, 0, none⟩ (.int .i64 L1)).setCell ⟨w3.heap.size, 1, none⟩ (.int .i64 L2) := ⟨_, rfl⟩
      have hu6 : Upd (fun k => k = w3.heap.size) w5 w6 := by rw [hw6]; exact ((Upd.refl (fun k => k = w3.heap.size) w5).set _ _ (.inl rfl)).set _ _ (.inl rfl)
      have k86 : Blk w6 w3.heap.size 32 [.int .i64 L1, .int .i64 L2] := by rw [hw6]; exact wr2 K8e.out _ _
      have hlt3 : w.heap.size + 1 + 1 < w3.heap.size := hs3
      have K1f := hide_ ((K1c.out.later HB5.out).upd hu6 (fun e => by omega))
      have K2f := hide_ ((K2c.out.later HB5.out).upd hu6 (fun e => by omega))
      have K3f := hide_ ((K3c.out.later HB5.out).upd hu6 (fun e => by omega))
      have HB6 : Hid (Below w.heap.size w w6) := hide_ ((below_to HB4.out HB5.out).trans (hu6.below _ (below_to HB4.out HB5.out).size (fun k e => by omega)))
      have HO6 : Hid (w6.ownsRow w.heap.size 3 1 (.slice xo no po) o.length (cellsL .i64 (natI o))) := hide_ (ownS_upd (ownS_upd HO4.out (Upd.of_below (S := fun _ => False) HB5.out) (fun _ _ h => h)) hu6 (fun k hk e => by
        subst e
        obtain ⟨ys, hy⟩ := ownS_type HO4.out hk
        exact absurd (blk_type hy K8.out) (by decide)))
      rw [← hw6]
      have K86 := hide_ k86
      clear hw6 hu6 k86 K8e K8 K1c K2c K3c HO4 HB5 HB4
      have d0 := K86.out.cell 0; have d1 := K86.out.cell 1
      simp at d0 d1
      by_cases hL0 : L1 = 0
      · --<P
        have hL2 : L2 = 0 := by
          have := lbD_zero D (by rw [HL.out]; exact hL0)
          rw [HL.out] at this
          simpa using (Prod.ext_iff.1 this).2
        subst hL0 hL2
        have hRT : T = (bO D o (fun _ => none) []).2 ∧ R = rtsP D (bO D o (fun _ => none) []).1 ∧ E = 0 ∧ A = 0 := by
          have := HRs.out
          simpa using this
        obtain ⟨rfl, rfl, rfl, rfl⟩ := hRT
        have hgd := (LookTo.zero HLk.out).1
        obtain ⟨hOr, hol⟩ : Ordr (usD D) o ∧ o.length = D.length := ⟨hgd.ord, hgd.len⟩
        have HOr := hide_ hOr
        have Hol := hide_ hol
        clear hol
        have hno : no = o.length := by
          rcases HO6.out.2 with ⟨e, h0⟩ | ⟨_, _, _, e, _⟩
          · injection e with _ e _; omega
          · injection e with _ e _
        subst hno
        have hmm := @run_makeMap Tryz.prog
        have hbb := bldBd
        obtain ⟨w7, hw7⟩ : ∃ wx, wx = (w6.alloc (.map #[] 0)).alloc (.cells #[.slice none 0 0, .map (some w6.heap.size), .slice none 0 0] 63) := ⟨_, rfl⟩
        have hB7 : Below w6.heap.size w6 w7 := by rw [hw7]; exact below2z _ _ _
        have kb : Blk w7 (w6.heap.size + 1) 63 [.slice none 0 0, .map (some w6.heap.size), .slice none 0 0] := by
          have h := Blk.newA (w6.alloc (.map #[] 0)) #[.slice none 0 0, .map (some w6.heap.size), .slice none 0 0] 63
          rw [← hw7, World.size_alloc] at h
          exact h
        have hmp : MpS w7 w6.heap.size 0 (fun _ => none) := by
          rw [hw7]
          exact (MpS.mk w6).later (below1 _ _)
        have hMb : BdM w w7 (w6.heap.size + 1) w6.heap.size 0 (.slice none 0 0) [] (fun _ => none) (.slice none 0 0) := ⟨kb, ⟨World.ownsRow_nil _ _ _ _, fun p hp => by cases hp⟩, hmp, below_to HB6.out hB7, by have := HB6.out.size; omega, HB6.out.size⟩
        have HL0 : Hid (LpD D a c o w (w6.heap.size + 1) w6.heap.size (.slice xo o.length po) 0 w7) := hide_ ⟨.slice none 0 0, [], .slice none 0 0, hMb, rfl, fun s n h => by simp [bO] at h, by simp, K1f.out.later hB7, K2f.out.later hB7, K3f.out.later hB7, ownS_upd HO6.out (Upd.of_below (S := fun _ => False) hB7) (fun _ _ h => h)⟩
        clear hgd kb hmp hMb hB7 hOr
        go_upto_region 11 with fail
        rw [← hw7]
        clear hw7 d0 d1 hmm hbb
        go_wp2_with fail
        go_loopw [44] (fun x44 wr => ∃ i : Nat, i ≤ o.length ∧ x44 = .int .i64 (i : Int) ∧ Hid (LpD D a c o w (w6.heap.size + 1) w6.heap.size (.slice xo o.length po) i wr)) (fun x44 _ => o.length - (intOf x44).toNat)
        case atStart => exact ⟨0, Nat.zero_le _, rfl, HL0⟩
        case round =>
          obtain ⟨i, hi, rfl, HLi⟩ := hrel
          generalize wr = wq at *
          clear HL0
          obtain ⟨v, Q, r9, l1, l2, l3, l4, l5, l6, l7, l8⟩ := HLi.out
          clear HLi
          by_cases hlt : i < o.length
          · have hlt' : (i : Int) < (o.length : Int) := by omega
            have Hlt := hide_ hlt
            obtain ⟨n, hn⟩ : ∃ n, o[i]? = some n := ⟨_, List.getElem?_eq_getElem hlt⟩
            have hol := Hol.out
            have hnl : n < D.length := by have := (HOr.out i n hn).1; rwa [usD_len] at this
            have hn' : (n : Int) < (D.length : Int) := by omega
            have hio : IOwn wq w.heap.size (.slice xo o.length po) (natI o) := by unfold IOwn; rw [natI_len]; exact l8
            obtain ⟨xo', po', exo, hrow, -, -⟩ := hio.row
            obtain ⟨e7, e8⟩ : xo = xo' ∧ po = po' := by injection exo with e7 _ e9; exact ⟨e7, e9⟩
            subst e7 e8
            clear exo
            obtain ⟨b2, o2, rfl, hb2, hc2⟩ := hrow.open (by rw [natI_len]; omega)
            have j0 := hc2 i (by rw [natI_len]; exact hlt)
            rw [natI_at o i n hn] at j0
            obtain ⟨b, oo, rfl, hb, hc⟩ := (r.out.later l1.2.2.2.1).open (by omega)
            obtain ⟨b', oo', eb, hbw, hcw⟩ := r.out.open (by omega)
            have hx : D[n]? = some (D[n]'hnl) := List.getElem?_eq_getElem hnl
            have hdd := HOK.out _ (List.getElem_mem hnl)
            have hFd := (HFo.out _ (List.getElem_mem hnl)).2
            have hdt := hty.out _ (List.getElem_mem hnl)
            generalize D[n]'hnl = d at *
            obtain ⟨va0, vc0, hcx0, hvc0, -, hN0⟩ := hcw n d hx
            injection eb with eb
            injection eb with e1 e2 _
            subst e1 e2
            have i0 : wq.cell? ⟨b, oo + n * 3, none⟩ = some (.string d.name) := by
              have := hcx0 0 (by decide)
              rw [l1.2.2.2.1.cell (p := ⟨b, oo + n * 3, none⟩) hbw]
              simpa [dfc] using this
            have i1 : wq.cell? ⟨b, oo + n * 3 + 1, none⟩ = some (.int .i64 d.a) := by
              have := hcx0 1 (by decide)
              rw [l1.2.2.2.1.cell (p := ⟨b, oo + n * 3 + 1, none⟩) hbw]
              simpa [dfc] using this
            have i2 : wq.cell? ⟨b, oo + n * 3 + 2, none⟩ = some (.slice va0 d.ty.length vc0) := by
              have := hcx0 2 (by decide)
              rw [l1.2.2.2.1.cell (p := ⟨b, oo + n * 3 + 2, none⟩) hbw]
              simpa [dfc] using this
            have HDf := hide_ (bdef_any w (w6.heap.size + 1) w6.heap.size i _ d va0 vc0 v Q r9 wq (hide_ hFd) (hide_ (fun y hy => hdd.2.2.2.2 y hy)) hdd.1 (by omega) (hide_ l3) (by omega) hvc0 (hide_ hN0) (hide_ l1))
            have HSt : Hid (∀ e w', DfTo w (w6.heap.size + 1) w6.heap.size i (bO D (o.take i) (fun _ => none) []).1 d v Q wq e w' → e = .returned (.tuple #[]) ∧ LpD D (some ⟨b, oo, none⟩) c o w (w6.heap.size + 1) w6.heap.size (.slice (some ⟨b2, o2, none⟩) o.length po) (i + 1) w') := hide_ (fun e w' ht => ⟨ht.1, LpD.step l1 l2 l3 l4 l5 l6 l7 l8 (by omega) hn hx hFd hdt ht⟩)
            have hi6 : i < 256 := by omega
            clear hol
            have s0 := l5.cell 0
            simp at s0
            clear hc hc2 hcw hcx0 hN0 hrow hio hx hdd hFd hdt l1 l2 l3 l4 l5 l6 l7 l8 hn
            go_upto_region 15 with (go_at_call 15; refine HDf.out.mono ?_; rintro e w8 ht; obtain ⟨rfl, hL8⟩ := HSt.out _ _ ht; have HL8 := hide_ hL8; clear hL8 ht)
            clear HDf HSt s0 i0 i1 i2 j0
            go_wp2_with fail
            go_roundw
            case rel => exact ⟨i + 1, by have := Hlt.out; omega, by go_num, HL8⟩
            case measure => have := Hlt.out; simp [intOf]; omega
          · obtain rfl : i = o.length := by omega
            have hlt' : ¬ ((o.length : Int) < (o.length : Int)) := by omega
            rw [List.take_length] at l1 l2 l3
            obtain ⟨av, cv, ev⟩ := l1.slice
            subst ev
            have D0 : Below wq.heap.size wq wq.drew := (Below.refl wq.heap.size wq).drew
            have HRo := hide_ (roots_any w (w6.heap.size + 1) w6.heap.size o.length _ (.slice av Q.length cv) Q r9 a c D wq.drew hD (hide_ (fun d hd => (HOK.out d hd).1)) (hide_ ((r.out.later l1.2.2.2.1).later D0)) (hide_ (l1.later D0)))
            have HSS : Hid (∀ w', Below wq.heap.size wq w' → (fun w' => w'.cell? ⟨w6.heap.size + 1, 0, none⟩ = some (.slice av Q.length cv) ∧ w'.cell? ⟨w.heap.size, 0, none⟩ = some (.slice a D.length c)) w') := hide_ (fun w' hb => by
              have y0 := (l1.later hb).1.cell 0
              have z0 := (l5.later hb).cell 0
              simp at y0 z0
              exact ⟨y0, z0⟩)
            have Hl1 := hide_ l1
            have Hl2 := hide_ l2
            have Hl5 := hide_ l5
            have Hl6 := hide_ l6
            have Hl7 := hide_ l7
            have hsb := bldSc
            clear l1 l2 l3 l4 l5 l6 l7 l8 D0
            go_upto_region 16 with fail
            refine wp_region_last 7 (fun w' => w'.cell? ⟨w6.heap.size + 1, 0, none⟩ = some (.slice av Q.length cv) ∧ w'.cell? ⟨w.heap.size, 0, none⟩ = some (.slice a D.length c)) (by kernel_rfl) (HSS.out _ ((Below.refl wq.heap.size wq).drew)) (fun hHeld => ?_)
            refine wpAnyF_take [7] (by kernel_rfl) (i := 0) (v := ?vb1) rfl (by kernel_rfl) (by kernel_rfl) (by kernel_rfl) (fun _ _ _ h => h) (Or.inl ⟨by kernel_rfl, ?hyb1⟩) hHeld ?restb1
            case hyb1 => intro w' hSw; (try dsimp only at hSw); go_simp; try with_reducible rfl
            simp only [Act.put]
            refine wpAnyF_take [7] (by kernel_rfl) (i := 1) (v := ?vb2) rfl (by kernel_rfl) (by kernel_rfl) (by kernel_rfl) (fun _ _ _ h => h) (Or.inl ⟨by kernel_rfl, ?hyb2⟩) hHeld ?restb2
            case hyb2 => intro w' hSw; (try dsimp only at hSw); go_simp; try with_reducible rfl
            simp only [Act.put]
            refine wpAnyF_take [7] (by kernel_rfl) (i := 2) (v := ?vb3) rfl (by kernel_rfl) (by kernel_rfl) (by kernel_rfl) (fun _ _ _ h => h) (Or.inl ⟨by kernel_rfl, ?hyb3⟩) hHeld ?restb3
            case hyb3 => intro w' hSw; (try dsimp only at hSw); go_simp; try with_reducible rfl
            simp only [Act.put]
            refine wpAnyF_take [7] (by kernel_rfl) (i := 5) (v := ?vb4) rfl (by kernel_rfl) (by kernel_rfl) (by kernel_rfl) (fun _ _ _ h => h) (Or.inl ⟨by kernel_rfl, ?hyb4⟩) hHeld ?restb4
            case hyb4 => intro w' hSw; (try dsimp only at hSw); go_simp; try with_reducible rfl
            simp only [Act.put]
            refine wpAnyF_ready (rs := [3]) (by kernel_rfl) (by simp) ?_
            refine AllReadyF.cons rfl (fun K hK => ?_) AllReadyF.nil
            go_simp
            refine HRo.out.mono ?_
            rintro e w8 ⟨y, m, q, rfl, HO8, HB8⟩
            dsimp only
            clear HRo
            have hb8 : Below wq.heap.size wq w8 := below_to ((Below.refl wq.heap.size wq).drew) HB8.out
            have k2 := Hl6.out.later hb8
            have k3 := Hl7.out.later hb8
            have m8 := Hl1.out.later hb8
            have k5 := Hl5.out.later hb8
            obtain ⟨w9, hw9⟩ : ∃ wx, wx = (w8.setCell ⟨w.heap.size + 1, 0, none⟩ (.slice av Q.length cv)).setCell ⟨w.heap.size + 1, 1, none⟩ (.slice y m q) := ⟨_, rfl⟩
            have u9 : Upd (fun k => k = w.heap.size + 1) w8 w9 := by rw [hw9]; exact ((Upd.refl (fun k => k = w.heap.size + 1) w8).set _ _ (.inl rfl)).set _ _ (.inl rfl)
            have k29 : Blk w9 (w.heap.size + 1) 29 [.slice av Q.length cv, .slice y m q] := by rw [hw9]; exact wr2 k2 _ _
            have k39 := k3.upd u9 (fun e => by omega)
            have k59 := k5.upd u9 (fun e => by omega)
            have kb9 := m8.1.upd u9 (fun e => absurd (blk_type m8.1 (e ▸ k2)) (by decide))
            have HS9 : Hid ((fun w' => w'.cell? ⟨w6.heap.size + 1, 0, none⟩ = some (.slice av Q.length cv) ∧ w'.cell? ⟨w.heap.size, 0, none⟩ = some (.slice a D.length c)) w9) := hide_ (by
              have y0 := kb9.cell 0; have z0 := k59.cell 0
              simp at y0 z0
              exact ⟨y0, z0⟩)
            have uA : Upd (fun k => k = w.heap.size + 1 + 1) w9 ((w9.setCell ⟨w.heap.size + 1 + 1, 0, none⟩ (.int .i64 0)).setCell ⟨w.heap.size + 1 + 1, 1, none⟩ (.int .i64 0)) := ((Upd.refl (fun k => k = w.heap.size + 1 + 1) w9).set _ _ (.inl rfl)).set _ _ (.inl rfl)
            have hro : ROwn w8 w.heap.size (.slice y m q) (rtsP D (bO D o (fun _ => none) []).1) := own_base HO8.out (Nat.le_trans Hl1.out.size (Nat.le_refl _))
            have hB9 : Below w.heap.size w w9 := m8.2.2.2.1.trans (u9.below _ m8.size (fun k e => by omega))
            have HFin : Hid (BuTo D (bO D o (fun _ => none) []).2 (rtsP D (bO D o (fun _ => none) []).1) 0 0 w (.returned (.tuple #[.agg #[.slice av Q.length cv, .slice y m q], .agg #[.int .i64 0, .int .i64 0]])) ((w9.setCell ⟨w.heap.size + 1 + 1, 0, none⟩ (.int .i64 0)).setCell ⟨w.heap.size + 1 + 1, 1, none⟩ (.int .i64 0))) := hide_ ⟨av, Q.length, cv, y, m, q, rfl, ⟨Q, ((m8.2.1.updN u9 k2 (by omega) (by decide) (by decide)).updN uA k39 (by omega) (by decide) (by decide)), Hl2.out⟩, (hro.updN u9 k2 (by decide)).updN uA k39 (by decide), hB9.trans (uA.below _ hB9.size (fun k e => by omega))⟩
            have K28 := hide_ k2
            have K29 := hide_ k29
            have K39 := hide_ k39
            have HB8' := hide_ hb8
            clear k2 k3 m8 k5 u9 k29 k39 k59 kb9 uA hro hB9 hb8 HO8
            refine hK.out _ _ (HSS.out _ HB8'.out) (fun hHeld => ?_)
            clear hK K
            refine wpAnyF_take [7] (by kernel_rfl) (i := 4) (v := ?vb5) rfl (by kernel_rfl) (by kernel_rfl) (by kernel_rfl) (fun _ _ _ h => h) (Or.inl ⟨by kernel_rfl, ?hyb5⟩) hHeld ?restb5
            case hyb5 => intro w' hSw; (try dsimp only at hSw); go_simp; try with_reducible rfl
            simp only [Act.put]
            refine wpAnyF_ready (rs := [6]) (by kernel_rfl) (by simp) ?_
            refine AllReadyF.cons rfl (fun K hK => ?_) AllReadyF.nil
            have q0 := K28.out.cell 0; have q1 := K28.out.cell 1; have qz := fun i => K28.out.frozen i
            simp at q0 q1
            go_simp
            rw [← hw9]
            clear hw9
            refine hK.out _ _ (HS9.out) (fun hHeld => ?_)
            clear hK K
            refine wpAnyF_ready (rs := [7]) (by kernel_rfl) (by simp) ?_
            refine AllReadyF.last rfl (fun K hK => ?_)
            have q0 := K39.out.cell 0; have q1 := K39.out.cell 1; have qz := fun i => K39.out.frozen i
            simp at q0 q1
            go_simp
            refine hK.out _ _ ?_
            clear hK K
            refine wpAnyF_done (by kernel_rfl) ?_ _
            go_wp2_with fail
            have hne2 : w.heap.size + 1 ≠ w.heap.size + 1 + 1 := by omega
            exact retB (a := 0) (b := 0) rfl rfl ((K29.out.other _ _ hne2).other _ _ hne2) (wr2 K39.out _ _) HFin.out
      · --<Q
        have hRT : T = [] ∧ R = [] ∧ E = L1 ∧ A = L2 := by
          have := HRs.out
          simpa [hL0] using this
        obtain ⟨rfl, rfl, rfl, rfl⟩ := hRT
        have HSS : Hid (∀ w', Below w6.heap.size w6 w' → (fun w' => w'.cell? ⟨w3.heap.size, 0, none⟩ = some (.int .i64 E) ∧ w'.cell? ⟨w3.heap.size, 1, none⟩ = some (.int .i64 A)) w') := hide_ (fun w' hb => by
          have y0 := (K86.out.later hb).cell 0; have y1 := (K86.out.later hb).cell 1
          simp at y0 y1
          exact ⟨y0, y1⟩)
        clear HLk HRs HOK HFo
        go_upto_region 9 with fail
        clear d0 d1
        obtain ⟨wd, hwd⟩ : ∃ wx, wx = w6.drew := ⟨_, rfl⟩
        obtain ⟨wz, hwz⟩ : ∃ wx, wx = ((wd.setCell ⟨w.heap.size + 1, 0, none⟩ (.slice none 0 0)).setCell ⟨w.heap.size + 1, 1, none⟩ (.slice none 0 0)) := ⟨_, rfl⟩
        have huz : Upd (fun k => k = w.heap.size + 1) wd wz := by rw [hwz]; exact ((Upd.refl (fun k => k = w.heap.size + 1) wd).set _ _ (.inl rfl)).set _ _ (.inl rfl)
        have kz2 : Blk wz (w.heap.size + 1) 29 [.slice none 0 0, .slice none 0 0] := by rw [hwz]; exact wr2 (hwd ▸ K2f.out.later ((Below.refl w6.heap.size w6).drew)) _ _
        have kz3 := Blk.upd (w := wd) (hwd ▸ K3f.out.later ((Below.refl w6.heap.size w6).drew)) huz (fun e => by omega)
        have kz8 := Blk.upd (w := wd) (hwd ▸ K86.out.later ((Below.refl w6.heap.size w6).drew)) huz (fun e => by omega)
        have HSz : Hid ((fun w' => w'.cell? ⟨w3.heap.size, 0, none⟩ = some (.int .i64 E) ∧ w'.cell? ⟨w3.heap.size, 1, none⟩ = some (.int .i64 A)) wz) := hide_ (by
          have y0 := kz8.cell 0; have y1 := kz8.cell 1
          simp at y0 y1
          exact ⟨y0, y1⟩)
        have hBd : Below w.heap.size w wd := by rw [hwd]; exact below_to HB6.out ((Below.refl w6.heap.size w6).drew)
        have HBz : Hid (Below w.heap.size w wz) := hide_ (hBd.trans (huz.below _ hBd.size (fun k e => by omega)))
        have KZ2 := hide_ kz2
        have KZ3 := hide_ kz3
        have K2d : Hid (Blk wd (w.heap.size + 1) 29 [.slice none 0 0, .slice none 0 0]) := hide_ (hwd ▸ K2f.out.later ((Below.refl w6.heap.size w6).drew))
        clear hBd huz kz2 kz3 kz8
        refine wp_region_last 3 (fun w' => w'.cell? ⟨w3.heap.size, 0, none⟩ = some (.int .i64 E) ∧ w'.cell? ⟨w3.heap.size, 1, none⟩ = some (.int .i64 A)) (by kernel_rfl) (HSS.out _ ((Below.refl w6.heap.size w6).drew)) (fun hHeld => ?_)
        refine wpAnyF_take [3] (by kernel_rfl) (i := 0) (v := ?vy1) rfl (by kernel_rfl) (by kernel_rfl) (by kernel_rfl) (fun _ _ _ h => h) (Or.inl ⟨by kernel_rfl, ?hyy1⟩) hHeld ?resty1
        case hyy1 => intro w' hSw; (try dsimp only at hSw); go_simp; try with_reducible rfl
        simp only [Act.put]
        refine wpAnyF_take [3] (by kernel_rfl) (i := 1) (v := ?vy2) rfl (by kernel_rfl) (by kernel_rfl) (by kernel_rfl) (fun _ _ _ h => h) (Or.inl ⟨by kernel_rfl, ?hyy2⟩) hHeld ?resty2
        case hyy2 => intro w' hSw; (try dsimp only at hSw); go_simp; try with_reducible rfl
        simp only [Act.put]
        refine wpAnyF_ready (rs := [2]) (by kernel_rfl) (by simp) ?_
        refine AllReadyF.cons rfl (fun K hK => ?_) AllReadyF.nil
        rw [← hwd]
        clear hwd
        have q0 := K2d.out.cell 0; have q1 := K2d.out.cell 1; have qz := fun i => K2d.out.frozen i
        simp at q0 q1
        go_simp
        rw [← hwz]
        clear hwz
        refine hK.out _ _ (HSz.out) (fun hHeld => ?_)
        clear hK K
        refine wpAnyF_ready (rs := [3]) (by kernel_rfl) (by simp) ?_
        refine AllReadyF.last rfl (fun K hK => ?_)
        have q0 := KZ3.out.cell 0; have q1 := KZ3.out.cell 1; have qz := fun i => KZ3.out.frozen i
        simp at q0 q1
        go_simp
        refine hK.out _ _ ?_
        clear hK K
        refine wpAnyF_done (by kernel_rfl) ?_ _
        go_wp2_with fail
        have hne2 : w.heap.size + 1 ≠ w.heap.size + 1 + 1 := by omega
        refine retB (a := E) (b := A) rfl rfl ((KZ2.out.other _ _ hne2).other _ _ hne2) (wr2 KZ3.out _ _) (BuTo.nil (below_set2 HBz.out _ _ _ (by omega)))
    · --<F
      have hRT : T = [] ∧ R = [] ∧ E = E1 ∧ A = A1 := by
        have := HRs.out
        rwa [if_neg hE] at this
      obtain ⟨rfl, rfl, rfl, rfl⟩ := hRT
      have hE0 : ¬ E = 0 := fun e => hE ⟨e, (LookTo.zero (e ▸ HLk.out)).2⟩
      have HSS : Hid (∀ w', Below w4.heap.size w4 w' → (fun w' => w'.cell? ⟨w3.heap.size, 0, none⟩ = some (.int .i64 E) ∧ w'.cell? ⟨w3.heap.size, 1, none⟩ = some (.int .i64 A)) w') := hide_ (fun w' hb => by
        have y0 := (K8.out.later hb).cell 0; have y1 := (K8.out.later hb).cell 1
        simp at y0 y1
        exact ⟨y0, y1⟩)
      clear HLk HRs HOK HFo hE
      go_upto_region 6 with fail
      clear d0 d1
      obtain ⟨wd, hwd⟩ : ∃ wx, wx = w4.drew := ⟨_, rfl⟩
      obtain ⟨wz, hwz⟩ : ∃ wx, wx = ((wd.setCell ⟨w.heap.size + 1, 0, none⟩ (.slice none 0 0)).setCell ⟨w.heap.size + 1, 1, none⟩ (.slice none 0 0)) := ⟨_, rfl⟩
      have huz : Upd (fun k => k = w.heap.size + 1) wd wz := by rw [hwz]; exact ((Upd.refl (fun k => k = w.heap.size + 1) wd).set _ _ (.inl rfl)).set _ _ (.inl rfl)
      have kz2 : Blk wz (w.heap.size + 1) 29 [.slice none 0 0, .slice none 0 0] := by rw [hwz]; exact wr2 (hwd ▸ K2c.out.later ((Below.refl w4.heap.size w4).drew)) _ _
      have kz3 := Blk.upd (w := wd) (hwd ▸ K3c.out.later ((Below.refl w4.heap.size w4).drew)) huz (fun e => by omega)
      have kz8 := Blk.upd (w := wd) (hwd ▸ K8.out.later ((Below.refl w4.heap.size w4).drew)) huz (fun e => by omega)
      have HSz : Hid ((fun w' => w'.cell? ⟨w3.heap.size, 0, none⟩ = some (.int .i64 E) ∧ w'.cell? ⟨w3.heap.size, 1, none⟩ = some (.int .i64 A)) wz) := hide_ (by
        have y0 := kz8.cell 0; have y1 := kz8.cell 1
        simp at y0 y1
        exact ⟨y0, y1⟩)
      have hBd : Below w.heap.size w wd := by rw [hwd]; exact below_to HB4.out ((Below.refl w4.heap.size w4).drew)
      have HBz : Hid (Below w.heap.size w wz) := hide_ (hBd.trans (huz.below _ hBd.size (fun k e => by omega)))
      have KZ2 := hide_ kz2
      have KZ3 := hide_ kz3
      have K2d : Hid (Blk wd (w.heap.size + 1) 29 [.slice none 0 0, .slice none 0 0]) := hide_ (hwd ▸ K2c.out.later ((Below.refl w4.heap.size w4).drew))
      clear hBd huz kz2 kz3 kz8
      refine wp_region_last 3 (fun w' => w'.cell? ⟨w3.heap.size, 0, none⟩ = some (.int .i64 E) ∧ w'.cell? ⟨w3.heap.size, 1, none⟩ = some (.int .i64 A)) (by kernel_rfl) (HSS.out _ ((Below.refl w4.heap.size w4).drew)) (fun hHeld => ?_)
      refine wpAnyF_take [3] (by kernel_rfl) (i := 0) (v := ?vx1) rfl (by kernel_rfl) (by kernel_rfl) (by kernel_rfl) (fun _ _ _ h => h) (Or.inl ⟨by kernel_rfl, ?hyx1⟩) hHeld ?restx1
      case hyx1 => intro w' hSw; (try dsimp only at hSw); go_simp; try with_reducible rfl
      simp only [Act.put]
      refine wpAnyF_take [3] (by kernel_rfl) (i := 1) (v := ?vx2) rfl (by kernel_rfl) (by kernel_rfl) (by kernel_rfl) (fun _ _ _ h => h) (Or.inl ⟨by kernel_rfl, ?hyx2⟩) hHeld ?restx2
      case hyx2 => intro w' hSw; (try dsimp only at hSw); go_simp; try with_reducible rfl
      simp only [Act.put]
      refine wpAnyF_ready (rs := [2]) (by kernel_rfl) (by simp) ?_
      refine AllReadyF.cons rfl (fun K hK => ?_) AllReadyF.nil
      rw [← hwd]
      clear hwd
      have q0 := K2d.out.cell 0; have q1 := K2d.out.cell 1; have qz := fun i => K2d.out.frozen i
      simp at q0 q1
      go_simp
      rw [← hwz]
      clear hwz
      refine hK.out _ _ (HSz.out) (fun hHeld => ?_)
      clear hK K
      refine wpAnyF_ready (rs := [3]) (by kernel_rfl) (by simp) ?_
      refine AllReadyF.last rfl (fun K hK => ?_)
      have q0 := KZ3.out.cell 0; have q1 := KZ3.out.cell 1; have qz := fun i => KZ3.out.frozen i
      simp at q0 q1
      go_simp
      refine hK.out _ _ ?_
      clear hK K
      refine wpAnyF_done (by kernel_rfl) ?_ _
      go_wp2_with fail
      have hne2 : w.heap.size + 1 ≠ w.heap.size + 1 + 1 := by omega
      refine retB (a := E) (b := A) rfl rfl ((KZ2.out.other _ _ hne2).other _ _ hne2) (wr2 KZ3.out _ _) (BuTo.nil (below_set2 HBz.out _ _ _ (by omega)))
  · --<S
    have hRT : T = [] ∧ R = [] ∧ E = (ckP D).2.2 ∧ A = 0 := by
      have h9 := h.out
      unfold BlTo at h9
      rw [if_neg hck] at h9
      exact h9
    obtain ⟨rfl, rfl, hE, rfl⟩ := hRT
    have HE := hide_ hE
    have he : ((ckP D).2.2 != 0) = true := by simp [hck]
    have u0 := K2b.out.cell 0; have u1 := K2b.out.cell 1; have t0 := K3b.out.cell 0; have t1 := K3b.out.cell 1
    have hz2 := fun i => K2b.out.frozen i
    have hz3 := fun i => K3b.out.frozen i
    simp at u0 u1 t0 t1
    clear hE hck h
    go_wp2_with fail
    obtain ⟨q1, q2⟩ := wr22z K2b.out K3b.out (.slice none 0 0) (.slice none 0 0) (.int .i64 (ckP D).2.2) (.int .i64 0)
    refine retB (a := (ckP D).2.2) (b := 0) rfl rfl q1 q2 ?_
    rw [HE.out]
    exact BuTo.nil (below_set4 HB2.out _ _ _ _ _ _ (by omega) (by omega))
end Go.Proofs.YtbgjgbddpcofcaaGreatDoor

/- The law's awake. -/
namespace Go.Proofs.YtbgjgbddpcofcaaGreatDoor
open Go.RowKit
set_option linter.unusedVariables false

theorem nrow_blk {w : World} {g : Nat} {N : List Nd} (h : Blk w g 40 (cellsN N)) : NRow w (some ⟨g, 0, none⟩) N :=
  .inr ⟨g, 0, rfl, h.lt, fun i x hx j hj => by rw [h.cell, Nat.zero_add]; exact cellsN_at N i j x hx hj⟩
theorem trow_plain {w : World} {g : Nat} {T : List Ty} (h : Blk w g 49 (cellsG (fun t => tyc t (.slice none 0 0)) T)) (hp : ∀ t ∈ T, t.ps = []) : TRowz w (some ⟨g, 0, none⟩) T := by
  have hg : GRow 4 (fun t => tyc t (.slice none 0 0)) w (some ⟨g, 0, none⟩) T := blk_grow (fun _ => rfl) h
  rcases hg with hg | ⟨b, o, e, hb, hc⟩
  · exact .inl hg
  · refine .inr ⟨b, o, e, hb, fun i t ht => ⟨none, 0, fun j hj => ?_, ?_, fun _ => rfl, .inl (hp t (List.mem_of_getElem? ht))⟩⟩
    · rw [hc i t ht j hj, hp t (List.mem_of_getElem? ht)]
      rfl
    · rw [hp t (List.mem_of_getElem? ht)]
      exact Nat.le_refl _
def exN : List Nd := [⟨5, 3, ⟨#[]⟩, ⟨#[]⟩, 0, 1, 0⟩, ⟨1, 2, ⟨#[]⟩, ⟨#[]⟩, 0, 0, 0⟩]
def exD : List Df := [⟨⟨#[97]⟩, 0, exN⟩]
def exT : List Ty := [⟨1, 2, 0, []⟩, ⟨5, 3, 0, []⟩]
def exR : List Rt := [⟨⟨#[97]⟩, 1⟩]
theorem ex_us : usD exD = [[]] := by rfl
theorem ex_acy : Acy (usD exD) := by
  rw [ex_us]
  intro i hl
  obtain ⟨n, hn⟩ := hl
  have key : ∀ n a b, ¬ Ld [[]] n a b := by
    intro n
    induction n with
    | zero => intro a b h; cases a <;> simp [Ld, us] at h
    | succ n ih => intro a b ⟨c, h1, h2⟩; exact ih c b h2
  exact key n i i hn
theorem ex_look : LookTo exD 0 0 [0] [2] := by
  refine lookTo_ok (by rfl) (by rfl) ex_acy ?_ rfl ⟨rfl, fun i d hd => ?_⟩ (fun j => ?_)
  · rw [ex_us]
    exact (Ordr.nil ([[]] : List (List Nat))).snoc (n := 0) (by decide) ⟨by simp, by simp [us]⟩ (fun m hm => by omega)
  · match i with
    | 0 => simp [exD] at hd; subst hd; rfl
    | i + 1 => simp [exD] at hd
  · match j with
    | 0 => decide
    | j + 1 => simp
theorem ex_build : BlTo exD exT exR 0 0 := by
  unfold BlTo
  rw [if_pos (by rfl)]
  refine ⟨0, 0, [0], [2], ex_look, ?_⟩
  rw [if_pos ⟨rfl, rfl⟩, if_pos (by rfl)]
  exact ⟨by rfl, by rfl, rfl, rfl⟩
theorem ex_chk : chk [⟨0, 0, 0, []⟩] [] = (92, 0) := by rfl
theorem ex_wt : Wt exD := ⟨by decide, fun d hd => by simp [exD] at hd; subst hd; decide⟩
theorem aE1 (k n d : Int) (w : World) : (Instr.build 40 #[(0, .int .i64 k), (1, .int .i64 n), (5, .int .i64 d)]).run Tryz.prog w = .ok (.agg #[.int .i64 k, .int .i64 n, .string ⟨#[]⟩, .string ⟨#[]⟩, .int .i64 0, .int .i64 d, .int .i64 0]) w := by kernel_rfl
theorem aE2 (k n : Int) (w : World) : (Instr.build 40 #[(0, .int .i64 k), (1, .int .i64 n)]).run Tryz.prog w = .ok (.agg #[.int .i64 k, .int .i64 n, .string ⟨#[]⟩, .string ⟨#[]⟩, .int .i64 0, .int .i64 0, .int .i64 0]) w := by kernel_rfl
theorem aD1 (s : ByteArray) (x : Option Addr) (n c : Nat) (w : World) : (Instr.build 38 #[(0, .string s), (2, .slice x n c)]).run Tryz.prog w = .ok (.agg #[.string s, .int .i64 0, .slice x n c]) w := by kernel_rfl
theorem aS1 (x : Option Addr) (n c : Nat) (w : World) : (Instr.build 24 #[(0, .slice x n c)]).run Tryz.prog w = .ok (.agg #[.slice x n c]) w := by kernel_rfl
theorem aR1 (s : ByteArray) (k : Int) (w : World) : (Instr.build 51 #[(0, .string s), (1, .int .i64 k)]).run Tryz.prog w = .ok (.agg #[.string s, .int .i64 k]) w := by kernel_rfl
theorem aT0 (w : World) : (Instr.build 49 #[]).run Tryz.prog w = .ok (.agg #[.int .i64 0, .int .i64 0, .int .i64 0, .slice none 0 0]) w := by kernel_rfl
theorem aC1 (x : Option Addr) (n c : Nat) (w : World) : (Instr.build 29 #[(0, .slice x n c)]).run Tryz.prog w = .ok (.agg #[.slice x n c, .slice none 0 0]) w := by kernel_rfl
theorem fldFz (a b : Value) (w : World) : (Instr.field 32 (.agg #[a, b]) 0).run Tryz.prog w = .ok a w := by kernel_rfl
set_option maxRecDepth 100000 in
set_option maxHeartbeats 8000000 in
theorem awake_any (w : World) : Calls Tryz.prog 4 #[] w fun e w' => e = .returned (.bool true) ∧ Below w.heap.size w w' := by
  have h1 := aE1; have h2 := aE2; have h3 := aD1; have h4 := aS1; have h5 := bldF0; have h6 := bldT; have h7 := aR1; have h8 := bldSc; have h9 := aT0; have h10 := aC1; have h11 := fldFz
  obtain ⟨W, hW⟩ : ∃ W, (w.alloc (.cells #[.int .i64 5, .int .i64 3, .string ⟨#[]⟩, .string ⟨#[]⟩, .int .i64 0, .int .i64 1, .int .i64 0, .int .i64 1, .int .i64 2, .string ⟨#[]⟩, .string ⟨#[]⟩, .int .i64 0, .int .i64 0, .int .i64 0] 40)).alloc (.cells #[.string ⟨#[97]⟩, .int .i64 0, .slice (some ⟨w.heap.size, 0, none⟩) 2 2] 38) = W := ⟨_, rfl⟩
  have hBW : Below w.heap.size w W := by rw [← hW]; exact below2z _ _ _
  have k0 : Blk W w.heap.size 40 (cellsN exN) := by rw [← hW]; exact (Blk.newA w _ _).alloc _
  have k1 : Blk W (w.heap.size + 1) 38 [.string ⟨#[97]⟩, .int .i64 0, .slice (some ⟨w.heap.size, 0, none⟩) 2 2] := by
    have h := Blk.newA (w.alloc (.cells #[.int .i64 5, .int .i64 3, .string ⟨#[]⟩, .string ⟨#[]⟩, .int .i64 0, .int .i64 1, .int .i64 0, .int .i64 1, .int .i64 2, .string ⟨#[]⟩, .string ⟨#[]⟩, .int .i64 0, .int .i64 0, .int .i64 0] 40)) #[.string ⟨#[97]⟩, .int .i64 0, .slice (some ⟨w.heap.size, 0, none⟩) 2 2] 38
    rw [hW, World.size_alloc] at h
    exact h
  have hDR : DRow W (some ⟨w.heap.size + 1, 0, none⟩) exD := .inr ⟨w.heap.size + 1, 0, rfl, k1.lt, fun i d hd => by
    match i with
    | 0 =>
      simp [exD] at hd
      subst hd
      refine ⟨some ⟨w.heap.size, 0, none⟩, 2, fun j hj => ?_, by decide, fun h => (by cases h), nrow_blk k0⟩
      rw [k1.cell]
      match j, hj with
      | 0, _ => rfl
      | 1, _ => rfl
      | 2, _ => rfl
    | i + 1 => simp [exD] at hd⟩
  have HC1 : Hid (Calls Tryz.prog 5 #[.agg #[.slice (some ⟨w.heap.size + 1, 0, none⟩) 1 1]] W fun e w' => BuTo exD exT exR 0 0 W e w') := hide_ (build_any (hide_ ex_build) (some ⟨w.heap.size + 1, 0, none⟩) 1 W (hide_ ex_wt) (hide_ (fun d hd => by simp [exD] at hd; subst hd; decide)) (hide_ hDR))
  have HBW := hide_ hBW
  clear k0 k1 hDR hBW
  go_enter Tryz.func4, Tryz.ntmps4
  go_upto_region 2 with (go_at_call 5; refine HC1.out.mono ?_; rintro e w1 ⟨x, n, p, y, m, q, rfl, HQ, hRo, hB1⟩; have HQ1 := hide_ HQ; have HRo := hide_ hRo; have HB1 := hide_ hB1; clear HQ hRo hB1)
  clear HC1 hW
  obtain ⟨Q, hQ, hQT⟩ := HQ1.out
  obtain ⟨x', p', e1, hT1⟩ := hQ.row
  rw [hQT] at e1 hT1
  obtain ⟨y', q', e2, -, -, hR1⟩ := own_grow rtc_len HRo.out
  obtain ⟨rfl, rfl, rfl⟩ : x = x' ∧ n = 2 ∧ p = p' := by injection e1 with a b c; exact ⟨a, b, c⟩
  obtain ⟨rfl, rfl, rfl⟩ : y = y' ∧ m = 1 ∧ q = q' := by injection e2 with a b c; exact ⟨a, b, c⟩
  clear e1 e2 hQ HQ1
  obtain ⟨w2, hw2⟩ : ∃ wx, wx = (w1.alloc (.cells #[.slice x 2 p, .slice y 1 q] 29)).alloc (.cells #[.int .i64 0, .int .i64 0] 32) := ⟨_, rfl⟩
  have hB2 : Below w1.heap.size w1 w2 := by rw [hw2]; exact below2z _ _ _
  obtain ⟨ks, kf⟩ := blk2z w1 #[.slice x 2 p, .slice y 1 q] #[.int .i64 0, .int .i64 0] 29 32
  rw [← hw2] at ks kf
  rw [← hw2]
  clear hw2
  obtain ⟨w3, hw3⟩ : ∃ wx, (w2.alloc (.cells #[.int .i64 1, .int .i64 2, .int .i64 0, .slice none 0 0, .int .i64 5, .int .i64 3, .int .i64 0, .slice none 0 0] 49)).alloc (.cells #[.string ⟨#[97]⟩, .int .i64 1] 51) = wx := ⟨_, rfl⟩
  have hB3 : Below w2.heap.size w2 w3 := by rw [← hw3]; exact below2z _ _ _
  obtain ⟨kt, kr⟩ := blk2z w2 #[.int .i64 1, .int .i64 2, .int .i64 0, .slice none 0 0, .int .i64 5, .int .i64 3, .int .i64 0, .slice none 0 0] #[.string ⟨#[97]⟩, .int .i64 1] 49 51
  rw [hw3] at kt kr
  have hT3 : TRowz w3 (some ⟨w2.heap.size, 0, none⟩) exT := trow_plain kt (fun t ht => by simp [exT] at ht; rcases ht with rfl | rfl <;> rfl)
  have hR3 : RRow w3 (some ⟨w2.heap.size + 1, 0, none⟩) exR := blk_grow rtc_len kr
  have hb13 := below_to hB2 hB3
  have HC2 : Hid (Calls Tryz.prog 7 #[.agg #[.slice x 2 p, .slice y 1 q], .agg #[.slice (some ⟨w2.heap.size, 0, none⟩) 2 2, .slice (some ⟨w2.heap.size + 1, 0, none⟩) 1 1]] w3 fun e w' => e = .returned (.bool true) ∧ Below w3.heap.size w3 w') := hide_ (same_yes x p y q (some ⟨w2.heap.size, 0, none⟩) 2 (some ⟨w2.heap.size + 1, 0, none⟩) 1 exT exR w3 (by decide) (by decide) (hide_ ⟨by decide, fun t ht => by simp [exT] at ht; rcases ht with rfl | rfl <;> decide⟩) (hide_ (hT1.later hb13)) (hide_ (hR1.later hb13)) (hide_ hT3) (hide_ hR3))
  have s0 := ks.cell 0; have s1 := ks.cell 1; have f0 := kf.cell 0; have f1 := kf.cell 1
  simp at s0 s1 f0 f1
  have HKs := hide_ ks
  have HT1 := hide_ hT1
  have HR1 := hide_ hR1
  have HB3 := hide_ hB3
  have HB13 := hide_ hb13
  clear hT3 hR3 kt kr hT1 hR1 hB3 hb13 ks kf hQT HRo
  go_upto_region 4 with (go_at_call 7; refine HC2.out.mono ?_; rintro e w4 ⟨rfl, hB4⟩; have HB4 := hide_ hB4; clear hB4)
  clear HC2 s0 s1 f0 f1 hw3
  have s0 := (HKs.out.later (below_to HB3.out HB4.out)).cell 0; have s1 := (HKs.out.later (below_to HB3.out HB4.out)).cell 1
  simp at s0 s1
  have HC3 : Hid (Calls Tryz.prog 10 #[.agg #[.slice x 2 p, .slice y 1 q], .string ⟨#[98]⟩] w4 fun e w' => e = .returned (.tuple #[.int .i64 0, .int .i64 93]) ∧ Below w4.heap.size w4 w') := hide_ (find_anyz (.slice x 2 p) y q exR ⟨#[98]⟩ w4 (by decide) (hide_ ((HR1.out.later HB13.out).later HB4.out)))
  go_upto_region 5 with (go_at_call 10; refine HC3.out.mono ?_; rintro e w5 ⟨rfl, hB5⟩; have HB5 := hide_ hB5; clear hB5)
  clear HC3 s0 s1
  obtain ⟨w6, hw6⟩ : ∃ wx, w5.alloc (.cells #[.int .i64 0, .int .i64 0, .int .i64 0, .slice none 0 0] 49) = wx := ⟨_, rfl⟩
  have hB6 : Below w5.heap.size w5 w6 := by rw [← hw6]; exact below1 _ _
  have kt : Blk w6 w5.heap.size 49 [.int .i64 0, .int .i64 0, .int .i64 0, .slice none 0 0] := by rw [← hw6]; exact Blk.newA w5 _ _
  have hT6 : TRowz w6 (some ⟨w5.heap.size, 0, none⟩) [⟨0, 0, 0, []⟩] := trow_plain kt (fun t ht => by simp at ht; subst ht; rfl)
  have HC4 : Hid (Calls Tryz.prog 11 #[.agg #[.slice (some ⟨w5.heap.size, 0, none⟩) 1 1, .slice none 0 0]] w6 fun e w' => e = .returned (.agg #[.int .i64 92, .int .i64 0]) ∧ Below w6.heap.size w6 w') := hide_ (check_anyz (some ⟨w5.heap.size, 0, none⟩) 1 [⟨0, 0, 0, []⟩] none 0 [] w6 (by decide) (by decide) (hide_ ⟨by decide, fun t ht => by simp at ht; subst ht; decide⟩) (hide_ hT6) (hide_ (.inl rfl)))
  have HB6 := hide_ hB6
  clear kt hT6 hB6
  go_wp2_with (go_at_call 11; refine HC4.out.mono ?_; rintro e w7 ⟨rfl, hB7⟩; have HB7 := hide_ hB7; clear hB7)
  go_ret
  exact ⟨rfl, below_to HBW.out (below_to HB1.out (below_to HB13.out (below_to HB4.out (below_to HB5.out (below_to HB6.out HB7.out)))))⟩
end Go.Proofs.YtbgjgbddpcofcaaGreatDoor
