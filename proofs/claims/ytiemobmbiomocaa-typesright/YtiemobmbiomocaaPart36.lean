import Derived.Test.YtiemobmbiomocaaPart32
import Derived.Test.YtiemobmbiomocaaPart29
import Derived.Test.YtiemobmbiomocaaPart34
import Derived.Test.YtiemobmbiomocaaPart22
import Derived.Test.YtiemobmbiomocaaPart21
import Derived.Test.YtiemobmbiomocaaPart35
import Derived.BigQuiet

/- types.Build. -/
namespace Go.Proofs.Ytiemobmbiomocaa
open Go.RowKit
set_option linter.unusedVariables false

theorem bldSc0 (w : World) : (Instr.build 34 #[]).run Try.prog w = .ok (.agg #[.slice none 0 0, .slice none 0 0]) w := by kernel_rfl
theorem bldSc (x y : Option Addr) (n m c d : Nat) (w : World) : (Instr.build 34 #[(0, .slice x n c), (1, .slice y m d)]).run Try.prog w = .ok (.agg #[.slice x n c, .slice y m d]) w := by kernel_rfl
theorem bldBd (b : Nat) (w : World) : (Instr.build 69 #[(1, .map (some b))]).run Try.prog w = .ok (.agg #[.slice none 0 0, .map (some b), .slice none 0 0]) w := by kernel_rfl
theorem retB {R : Ending → World → Prop} {tmps : Array Value} {g2 g3 : Nat} {w : World} {v0 v1 : Value} {a b : Int} (h2 : tmps.getD 2 undef = .pointer (some ⟨g2, 0, none⟩)) (h3 : tmps.getD 3 undef = .pointer (some ⟨g3, 0, none⟩)) (K2 : Blk w g2 34 [v0, v1]) (K3 : Blk w g3 28 [.int .i64 a, .int .i64 b]) (hR : R (.returned (.tuple #[.agg #[v0, v1], .agg #[.int .i64 a, .int .i64 b]])) w) :
    bodyPost Try.prog Try.f6 R Exit.ret ⟨tmps, []⟩ w :=
  bodyPost_ret (results_two_cells rfl _ _ _ _ _ _ #[v0, v1] #[.int .i64 a, .int .i64 b] _ _ _ _ h2 K2 h3 K3 Try.underlying34 rfl (by show _ = some 2; kernel_rfl) Try.underlying28 rfl (by show _ = some 2; kernel_rfl)) rfl hR
theorem wr22z {w : World} {g2 g3 : Nat} {x0 x1 y0 y1 : Value} (h2 : Blk w g2 34 [x0, x1]) (h3 : Blk w g3 28 [y0, y1]) (v0 v1 u0 u1 : Value) :
    Blk ((((w.setCell ⟨g2, 0, none⟩ v0).setCell ⟨g2, 1, none⟩ v1).setCell ⟨g3, 0, none⟩ u0).setCell ⟨g3, 1, none⟩ u1) g2 34 [v0, v1] ∧
    Blk ((((w.setCell ⟨g2, 0, none⟩ v0).setCell ⟨g2, 1, none⟩ v1).setCell ⟨g3, 0, none⟩ u0).setCell ⟨g3, 1, none⟩ u1) g3 28 [u0, u1] := by
  have hne : g2 ≠ g3 := fun e => absurd (blk_type h2 (e ▸ h3)) (by decide)
  exact ⟨((wr2 h2 v0 v1).other _ _ hne).other _ _ hne, wr2 ((h3.other _ _ hne.symm).other _ _ hne.symm) u0 u1⟩
/-- What Build answers, and where. -/
def BuTo (D : List Df) (T : List Ty) (R : List Rt) (E A : Int) (w : World) (e : Ending) (w' : World) : Prop :=
  ∃ x n p y m q, e = .returned (.tuple #[.agg #[.slice x n p, .slice y m q], .agg #[.int .i64 E, .int .i64 A]]) ∧ (∃ Q, TOwn w' w.heap.size (.slice x n p) Q ∧ Q.map (·.1) = T) ∧ ROwn w' w.heap.size (.slice y m q) R ∧ Below w.heap.size w w'
theorem BuTo.nil {D : List Df} {E A : Int} {w w' : World} (hB : Below w.heap.size w w') : BuTo D [] [] E A w (.returned (.tuple #[.agg #[.slice none 0 0, .slice none 0 0], .agg #[.int .i64 E, .int .i64 A]])) w' :=
  ⟨none, 0, 0, none, 0, 0, rfl, ⟨[], ⟨World.ownsRow_nil _ _ _ _, fun p hp => by cases hp⟩, rfl⟩, World.ownsRow_nil _ _ _ _, hB⟩
/-- What is known when the loop over the order has gone round. -/
def LpD (D : List Df) (a : Option Addr) (c : Nat) (o : List Nat) (w : World) (g bm : Nat) (vo : Value) (i : Nat) (wq : World) : Prop :=
  ∃ v Q r, BdM w wq g bm i v Q (bO D (o.take i) (fun _ => none) []).1 r ∧ Q.map (·.1) = (bO D (o.take i) (fun _ => none) []).2 ∧ (∀ s n, (bO D (o.take i) (fun _ => none) []).1 s = some n → n ≤ 1000000000) ∧ Q.length ≤ i * 3900000 ∧
    Blk wq w.heap.size 25 [.slice a D.length c] ∧ Blk wq (w.heap.size + 1) 34 [.slice none 0 0, .slice none 0 0] ∧ Blk wq (w.heap.size + 1 + 1) 28 [.int .i64 0, .int .i64 0] ∧ wq.ownsRow w.heap.size 3 1 vo o.length (cellsL .i64 (natI o))
theorem LpD.step {D : List Df} {a : Option Addr} {c : Nat} {o : List Nat} {w : World} {g bm : Nat} {vo : Value} {i : Nat} {wq w2 : World} {v : Value} {Q : List (Ty × Value)} {r : Value} {n : Nat} {d : Df} {e : Ending}
    (h1 : BdM w wq g bm i v Q (bO D (o.take i) (fun _ => none) []).1 r) (h2 : Q.map (·.1) = (bO D (o.take i) (fun _ => none) []).2) (h3 : ∀ s n, (bO D (o.take i) (fun _ => none) []).1 s = some n → n ≤ 1000000000) (h4 : Q.length ≤ i * 3900000)
    (h5 : Blk wq w.heap.size 25 [.slice a D.length c]) (h6 : Blk wq (w.heap.size + 1) 34 [.slice none 0 0, .slice none 0 0]) (h7 : Blk wq (w.heap.size + 1 + 1) 28 [.int .i64 0, .int .i64 0]) (h8 : wq.ownsRow w.heap.size 3 1 vo o.length (cellsL .i64 (natI o)))
    (hi : i ≤ 255) (hn : o[i]? = some n) (hd : D[n]? = some d) (hF : Forest d.ty.length 0 0 1 d.ty) (hty : d.ty.length ≤ 3900000) (hTo : DfTo w g bm i (bO D (o.take i) (fun _ => none) []).1 d v Q wq e w2) : LpD D a c o w g bm vo (i + 1) w2 := by
  obtain ⟨rfl, v', Q', r', b1, b2, b3⟩ := hTo
  have hil := (List.getElem?_eq_some_iff.1 hn).1
  have hto : o.take (i + 1) = o.take i ++ [n] := by
    rw [List.take_succ_eq_append_getElem hil, (List.getElem?_eq_some_iff.1 hn).2]
  have hgd : D.getD n ⟨⟨#[]⟩, 0, []⟩ = d := by simp [List.getD, hd]
  have hbo : bO D (o.take (i + 1)) (fun _ => none) [] = bD (bO D (o.take i) (fun _ => none) []).1 (Q.map (·.1)) d := by
    rw [hto, bO_snoc, hgd, ← h2]
  have hsm := bD_small (T := Q.map (·.1)) (c := 1000000000) hF h3 (by simp; omega)
  have key : ∀ k t ys, Blk wq k t ys → t ≠ 69 → t ≠ 50 → ¬ (k = g ∨ v.ownBlock = some k ∨ k = bm) := fun k t ys hk ht1 ht2 e => by
    rcases e with e | e | e
    · subst e; exact ht1 (blk_type hk h1.1)
    · obtain ⟨-, -, zs, hz⟩ := h1.own e
      exact ht2 (blk_type hk hz)
    · subst e; exact h1.2.2.1.ne hk rfl
  refine ⟨v', Q', r', by rw [hbo]; exact b1, by rw [hbo]; exact b2, by rw [hbo]; exact hsm.1, ?_, h5.upd b3 (key _ _ _ h5 (by decide) (by decide)), h6.upd b3 (key _ _ _ h6 (by decide) (by decide)), h7.upd b3 (key _ _ _ h7 (by decide) (by decide)), ownS_upd h8 b3 (fun k hk => ?_)⟩
  · have h9 := congrArg List.length b2
    have h10 := hsm.2
    simp only [List.length_map] at h9 h10
    omega
  · obtain ⟨ys, hy⟩ := ownS_type h8 hk
    exact key _ _ _ hy (by decide) (by decide)
set_option maxRecDepth 100000 in
set_option maxHeartbeats 16000000 in
theorem build_any {D : List Df} {T : List Ty} {R : List Rt} {E A : Int} (h : Hid (BlTo D T R E A)) (a : Option Addr) (c : Nat) (w : World) (hW : Hid (Wt D)) (hty : Hid (∀ d ∈ D, d.ty.length ≤ 3900000)) (r : Hid (DRow w a D)) :
    Calls Try.prog 6 #[.agg #[.slice a D.length c]] w fun e w' => BuTo D T R E A w e w' := by
  obtain ⟨w1, hw1⟩ : ∃ w1, w1 = ((w.alloc (.cells #[.slice a D.length c] 25)).alloc (.cells #[.slice none 0 0, .slice none 0 0] 34)).alloc (.cells #[.int .i64 0, .int .i64 0] 28) := ⟨_, rfl⟩
  have HB1 : Hid (Below w.heap.size w w1) := by rw [hw1]; exact (((Below.refl _ _).alloc (Nat.le_refl _) _).alloc (by simp) _).alloc (by simp; omega) _
  have K1 : Hid (Blk w1 w.heap.size 25 [.slice a D.length c]) := by rw [hw1]; exact ((Blk.newA w #[.slice a D.length c] 25).alloc _).alloc _
  have K2 : Hid (Blk w1 (w.heap.size + 1) 34 [.slice none 0 0, .slice none 0 0]) := hide_ (by
    have h := (Blk.newA (w.alloc (.cells #[.slice a D.length c] 25)) #[.slice none 0 0, .slice none 0 0] 34).alloc (.cells #[.int .i64 0, .int .i64 0] 28)
    rw [← hw1, World.size_alloc] at h
    exact h)
  have K3 : Hid (Blk w1 (w.heap.size + 1 + 1) 28 [.int .i64 0, .int .i64 0]) := hide_ (by
    have h := Blk.newA ((w.alloc (.cells #[.slice a D.length c] 25)).alloc (.cells #[.slice none 0 0, .slice none 0 0] 34)) #[.int .i64 0, .int .i64 0] 28
    rw [← hw1, World.size_alloc, World.size_alloc] at h
    exact h)
  have HC := hide_ (check_any a c D w1 (hide_ (Wt.lens hW.out)) (hide_ (r.out.later HB1.out)))
  go_enter Try.func6, Try.ntmps6
  go_upto_region 1 with fail
  rw [← hw1]
  clear hw1
  have c1 := K1.out.cell 0
  simp at c1
  go_upto_region 2 with (go_at_call 13; refine HC.out.mono ?_; rintro e w2 ⟨rfl, hB2⟩)
  clear c1 HC
  have HB2 := hide_ (below_to HB1.out hB2)
  have K1b := hide_ (K1.out.later hB2)
  have K2b := hide_ (K2.out.later hB2)
  have K3b := hide_ (K3.out.later hB2)
  clear hB2 HB1 K1 K2 K3
  have f0 := bldF0; have g0 := bldSc0; have ge := bldFe
  by_cases hck : (ckP D).2.2 = 0
  · have he : ((ckP D).2.2 != 0) = false := by simp [hck]
    obtain ⟨hD, hok⟩ := df_ok hck hW.out
    have HOK := hide_ hok
    have HFo := hide_ (ckP_all hck).2
    obtain ⟨E1, A1, o, ds, hLk, hrest⟩ : ∃ E1 A1 o ds, LookTo D E1 A1 o ds ∧
      (if E1 = 0 ∧ A1 = 0 then
        (if (lbD D).1 = 0 then T = (bO D o (fun _ => none) []).2 ∧ R = rtsP D (bO D o (fun _ => none) []).1 ∧ E = 0 ∧ A = 0
        else T = [] ∧ R = [] ∧ E = (lbD D).1 ∧ A = (lbD D).2)
      else T = [] ∧ R = [] ∧ E = E1 ∧ A = A1) := by
      have h9 := h.out
      unfold BlTo at h9
      rw [if_pos hck] at h9
      exact h9
    have HLk := hide_ hLk
    have HRs := hide_ hrest
    clear h hok hrest
    have HC2 := hide_ (nOrder_any hLk a c w2 hW (hide_ (r.out.later HB2.out)))
    have c1 := K1b.out.cell 0
    simp at c1
    clear hLk hck
    go_upto_region 5 with (go_at_call 14; refine HC2.out.mono ?_; rintro e w3 ⟨xo, no, po, rfl, HO3, HB3⟩)
    clear c1 HC2 he
    have k8 := Blk.newA w3 #[.int .i64 E1, .int .i64 A1] 28
    obtain ⟨w4, hw4⟩ : ∃ w4, w4 = w3.alloc (.cells #[.int .i64 E1, .int .i64 A1] 28) := ⟨_, rfl⟩
    have hB4 : Below w3.heap.size w3 w4 := by rw [hw4]; exact below1 _ _
    rw [← hw4] at k8
    have hB34 := below_to HB3.out hB4
    have K1c := hide_ (K1b.out.later hB34)
    have K2c := hide_ (K2b.out.later hB34)
    have K3c := hide_ (K3b.out.later hB34)
    have HB4 := hide_ (below_to HB2.out hB34)
    have HO4 : Hid (w4.ownsRow w.heap.size 3 1 (.slice xo no po) o.length (cellsL .i64 (natI o))) := hide_ (ownS_upd (own_base HO3.out HB2.out.size) (Upd.of_below (S := fun _ => False) hB4) (fun _ _ h => h))
    have K8 := hide_ k8
    have hg8 : w.heap.size ≤ w3.heap.size := (below_to HB2.out HB3.out).size
    have hs3 : w.heap.size + 1 + 1 < w3.heap.size := by have h1 := K3b.out.lt; have h2 := HB3.out.size; omega
    rw [← hw4]
    clear hw4 hB4 hB34 HB3 HB2 HO3 k8 K1b K2b K3b
    have d0 := K8.out.cell 0; have d1 := K8.out.cell 1
    simp at d0 d1
    by_cases hE : E1 = 0 ∧ A1 = 0
    · obtain ⟨rfl, rfl⟩ := hE
      have c1 := K1c.out.cell 0
      simp at c1
      have z0 := K8.out.frozen 0; have z1 := K8.out.frozen 1
      have HC3 := hide_ (bounds_any a c D w4 (hide_ (Wt.lens hW.out)) (hide_ (r.out.later HB4.out)))
      obtain ⟨L, hL⟩ : ∃ L, lbD D = L := ⟨_, rfl⟩
      rw [hL] at HC3 HRs
      have HL := hide_ hL
      clear hL
      obtain ⟨L1, L2⟩ := L
      dsimp only at HC3
      go_upto_region 8 with (go_at_call 15; refine HC3.out.mono ?_; rintro e w5 ⟨rfl, HB5⟩; have K8e := hide_ (K8.out.later HB5.out); have d0e := K8e.out.cell 0; have d1e := K8e.out.cell 1; have z0e := K8e.out.frozen 0; have z1e := K8e.out.frozen 1; simp at d0e d1e)
      clear HC3 d0 d1 z0 z1 d0e d1e z0e z1e c1
      obtain ⟨w6, hw6⟩ : ∃ wx, wx = (w5.setCell ⟨w3.heap.size, 0, none⟩ (.int .i64 L1)).setCell ⟨w3.heap.size, 1, none⟩ (.int .i64 L2) := ⟨_, rfl⟩
      have hu6 : Upd (fun k => k = w3.heap.size) w5 w6 := by rw [hw6]; exact ((Upd.refl (fun k => k = w3.heap.size) w5).set _ _ (.inl rfl)).set _ _ (.inl rfl)
      have k86 : Blk w6 w3.heap.size 28 [.int .i64 L1, .int .i64 L2] := by rw [hw6]; exact wr2 K8e.out _ _
      have hlt3 : w.heap.size + 1 + 1 < w3.heap.size := hs3
      have K1f := hide_ ((K1c.out.later HB5.out).upd hu6 (fun e => by omega))
      have K2f := hide_ ((K2c.out.later HB5.out).upd hu6 (fun e => by omega))
      have K3f := hide_ ((K3c.out.later HB5.out).upd hu6 (fun e => by omega))
      have HB6 : Hid (Below w.heap.size w w6) := hide_ ((below_to HB4.out HB5.out).trans (hu6.below _ (below_to HB4.out HB5.out).size (fun k e => by omega)))
      have HO6 : Hid (w6.ownsRow w.heap.size 3 1 (.slice xo no po) o.length (cellsL .i64 (natI o))) := hide_ (ownS_upd (ownS_upd HO4.out (Upd.of_below (S := fun _ => False) HB5.out) (fun _ _ h => h)) hu6 (fun k hk e => by
        subst e
        obtain ⟨ys, hy⟩ := ownS_type HO4.out hk
        exact absurd (blk_type hy K8.out) (by decide)))
      rw [← hw6]
      have K86 := hide_ k86
      clear hw6 hu6 k86 K8e K8 K1c K2c K3c HO4 HB5 HB4
      have d0 := K86.out.cell 0; have d1 := K86.out.cell 1
      simp at d0 d1
      by_cases hL0 : L1 = 0
      · --<P
        have hL2 : L2 = 0 := by
          have := lbD_zero D (by rw [HL.out]; exact hL0)
          rw [HL.out] at this
          simpa using (Prod.ext_iff.1 this).2
        subst hL0 hL2
        have hRT : T = (bO D o (fun _ => none) []).2 ∧ R = rtsP D (bO D o (fun _ => none) []).1 ∧ E = 0 ∧ A = 0 := by
          have := HRs.out
          simpa using this
        obtain ⟨rfl, rfl, rfl, rfl⟩ := hRT
        have hgd := (LookTo.zero HLk.out).1
        obtain ⟨hOr, hol⟩ : Ordr (usD D) o ∧ o.length = D.length := ⟨hgd.ord, hgd.len⟩
        have HOr := hide_ hOr
        have Hol := hide_ hol
        clear hol
        have hno : no = o.length := by
          rcases HO6.out.2 with ⟨e, h0⟩ | ⟨_, _, _, e, _⟩
          · injection e with _ e _; omega
          · injection e with _ e _
        subst hno
        have hmm := @run_makeMap Try.prog
        have hbb := bldBd
        obtain ⟨w7, hw7⟩ : ∃ wx, wx = (w6.alloc (.map #[] 0)).alloc (.cells #[.slice none 0 0, .map (some w6.heap.size), .slice none 0 0] 69) := ⟨_, rfl⟩
        have hB7 : Below w6.heap.size w6 w7 := by rw [hw7]; exact below2z _ _ _
        have kb : Blk w7 (w6.heap.size + 1) 69 [.slice none 0 0, .map (some w6.heap.size), .slice none 0 0] := by
          have h := Blk.newA (w6.alloc (.map #[] 0)) #[.slice none 0 0, .map (some w6.heap.size), .slice none 0 0] 69
          rw [← hw7, World.size_alloc] at h
          exact h
        have hmp : MpS w7 w6.heap.size 0 (fun _ => none) := by
          rw [hw7]
          exact (MpS.mk w6).later (below1 _ _)
        have hMb : BdM w w7 (w6.heap.size + 1) w6.heap.size 0 (.slice none 0 0) [] (fun _ => none) (.slice none 0 0) := ⟨kb, ⟨World.ownsRow_nil _ _ _ _, fun p hp => by cases hp⟩, hmp, below_to HB6.out hB7, by have := HB6.out.size; omega, HB6.out.size⟩
        have HL0 : Hid (LpD D a c o w (w6.heap.size + 1) w6.heap.size (.slice xo o.length po) 0 w7) := hide_ ⟨.slice none 0 0, [], .slice none 0 0, hMb, rfl, fun s n h => by simp [bO] at h, by simp, K1f.out.later hB7, K2f.out.later hB7, K3f.out.later hB7, ownS_upd HO6.out (Upd.of_below (S := fun _ => False) hB7) (fun _ _ h => h)⟩
        clear hgd kb hmp hMb hB7 hOr
        go_upto_region 11 with fail
        rw [← hw7]
        clear hw7 d0 d1 hmm hbb
        go_wp2_with fail
        go_loopw [44] (fun x44 wr => ∃ i : Nat, i ≤ o.length ∧ x44 = .int .i64 (i : Int) ∧ Hid (LpD D a c o w (w6.heap.size + 1) w6.heap.size (.slice xo o.length po) i wr)) (fun x44 _ => o.length - (intOf x44).toNat)
        case atStart => exact ⟨0, Nat.zero_le _, rfl, HL0⟩
        case round =>
          obtain ⟨i, hi, rfl, HLi⟩ := hrel
          generalize wr = wq at *
          clear HL0
          obtain ⟨v, Q, r9, l1, l2, l3, l4, l5, l6, l7, l8⟩ := HLi.out
          clear HLi
          by_cases hlt : i < o.length
          · have hlt' : (i : Int) < (o.length : Int) := by omega
            have Hlt := hide_ hlt
            obtain ⟨n, hn⟩ : ∃ n, o[i]? = some n := ⟨_, List.getElem?_eq_getElem hlt⟩
            have hol := Hol.out
            have hnl : n < D.length := by have := (HOr.out i n hn).1; rwa [usD_len] at this
            have hn' : (n : Int) < (D.length : Int) := by omega
            have hio : IOwn wq w.heap.size (.slice xo o.length po) (natI o) := by unfold IOwn; rw [natI_len]; exact l8
            obtain ⟨xo', po', exo, hrow, -, -⟩ := hio.row
            obtain ⟨e7, e8⟩ : xo = xo' ∧ po = po' := by injection exo with e7 _ e9; exact ⟨e7, e9⟩
            subst e7 e8
            clear exo
            obtain ⟨b2, o2, rfl, hb2, hc2⟩ := hrow.open (by rw [natI_len]; omega)
            have j0 := hc2 i (by rw [natI_len]; exact hlt)
            rw [natI_at o i n hn] at j0
            obtain ⟨b, oo, rfl, hb, hc⟩ := (r.out.later l1.2.2.2.1).open (by omega)
            obtain ⟨b', oo', eb, hbw, hcw⟩ := r.out.open (by omega)
            have hx : D[n]? = some (D[n]'hnl) := List.getElem?_eq_getElem hnl
            have hdd := HOK.out _ (List.getElem_mem hnl)
            have hFd := (HFo.out _ (List.getElem_mem hnl)).2
            have hdt := hty.out _ (List.getElem_mem hnl)
            generalize D[n]'hnl = d at *
            obtain ⟨va0, vc0, hcx0, hvc0, -, hN0⟩ := hcw n d hx
            injection eb with eb
            injection eb with e1 e2 _
            subst e1 e2
            have i0 : wq.cell? ⟨b, oo + n * 3, none⟩ = some (.string d.name) := by
              have := hcx0 0 (by decide)
              rw [l1.2.2.2.1.cell (p := ⟨b, oo + n * 3, none⟩) hbw]
              simpa [dfc] using this
            have i1 : wq.cell? ⟨b, oo + n * 3 + 1, none⟩ = some (.int .i64 d.a) := by
              have := hcx0 1 (by decide)
              rw [l1.2.2.2.1.cell (p := ⟨b, oo + n * 3 + 1, none⟩) hbw]
              simpa [dfc] using this
            have i2 : wq.cell? ⟨b, oo + n * 3 + 2, none⟩ = some (.slice va0 d.ty.length vc0) := by
              have := hcx0 2 (by decide)
              rw [l1.2.2.2.1.cell (p := ⟨b, oo + n * 3 + 2, none⟩) hbw]
              simpa [dfc] using this
            have HDf := hide_ (bdef_any w (w6.heap.size + 1) w6.heap.size i _ d va0 vc0 v Q r9 wq (hide_ hFd) (hide_ (fun y hy => hdd.2.2.2.2 y hy)) hdd.1 (by omega) (hide_ l3) (by omega) hvc0 (hide_ hN0) (hide_ l1))
            have HSt : Hid (∀ e w', DfTo w (w6.heap.size + 1) w6.heap.size i (bO D (o.take i) (fun _ => none) []).1 d v Q wq e w' → e = .returned (.tuple #[]) ∧ LpD D (some ⟨b, oo, none⟩) c o w (w6.heap.size + 1) w6.heap.size (.slice (some ⟨b2, o2, none⟩) o.length po) (i + 1) w') := hide_ (fun e w' ht => ⟨ht.1, LpD.step l1 l2 l3 l4 l5 l6 l7 l8 (by omega) hn hx hFd hdt ht⟩)
            have hi6 : i < 256 := by omega
            clear hol
            have s0 := l5.cell 0
            simp at s0
            clear hc hc2 hcw hcx0 hN0 hrow hio hx hdd hFd hdt l1 l2 l3 l4 l5 l6 l7 l8 hn
            go_upto_region 15 with (go_at_call 16; refine HDf.out.mono ?_; rintro e w8 ht; obtain ⟨rfl, hL8⟩ := HSt.out _ _ ht; have HL8 := hide_ hL8; clear hL8 ht)
            clear HDf HSt s0 i0 i1 i2 j0
            go_wp2_with fail
            go_roundw
            case rel => exact ⟨i + 1, by have := Hlt.out; omega, by go_num, HL8⟩
            case measure => have := Hlt.out; simp [intOf]; omega
          · obtain rfl : i = o.length := by omega
            have hlt' : ¬ ((o.length : Int) < (o.length : Int)) := by omega
            rw [List.take_length] at l1 l2 l3
            obtain ⟨av, cv, ev⟩ := l1.slice
            subst ev
            have D0 : Below wq.heap.size wq wq.drew := (Below.refl wq.heap.size wq).drew
            have HRo := hide_ (roots_any w (w6.heap.size + 1) w6.heap.size o.length _ (.slice av Q.length cv) Q r9 a c D wq.drew hD (hide_ (fun d hd => (HOK.out d hd).1)) (hide_ ((r.out.later l1.2.2.2.1).later D0)) (hide_ (l1.later D0)))
            have HSS : Hid (∀ w', Below wq.heap.size wq w' → (fun w' => w'.cell? ⟨w6.heap.size + 1, 0, none⟩ = some (.slice av Q.length cv) ∧ w'.cell? ⟨w.heap.size, 0, none⟩ = some (.slice a D.length c)) w') := hide_ (fun w' hb => by
              have y0 := (l1.later hb).1.cell 0
              have z0 := (l5.later hb).cell 0
              simp at y0 z0
              exact ⟨y0, z0⟩)
            have Hl1 := hide_ l1
            have Hl2 := hide_ l2
            have Hl5 := hide_ l5
            have Hl6 := hide_ l6
            have Hl7 := hide_ l7
            have hsb := bldSc
            clear l1 l2 l3 l4 l5 l6 l7 l8 D0
            go_upto_region 16 with fail
            refine wp_region_last 7 (fun w' => w'.cell? ⟨w6.heap.size + 1, 0, none⟩ = some (.slice av Q.length cv) ∧ w'.cell? ⟨w.heap.size, 0, none⟩ = some (.slice a D.length c)) (by kernel_rfl) (HSS.out _ ((Below.refl wq.heap.size wq).drew)) (fun hHeld => ?_)
            refine wpAnyF_take [7] (by kernel_rfl) (i := 0) (v := ?vb1) rfl (by kernel_rfl) (by kernel_rfl) (by kernel_rfl) (fun _ _ _ h => h) (Or.inl ⟨by kernel_rfl, ?hyb1⟩) hHeld ?restb1
            case hyb1 => intro w' hSw; (try dsimp only at hSw); go_simp; try with_reducible rfl
            simp only [Act.put]
            refine wpAnyF_take [7] (by kernel_rfl) (i := 1) (v := ?vb2) rfl (by kernel_rfl) (by kernel_rfl) (by kernel_rfl) (fun _ _ _ h => h) (Or.inl ⟨by kernel_rfl, ?hyb2⟩) hHeld ?restb2
            case hyb2 => intro w' hSw; (try dsimp only at hSw); go_simp; try with_reducible rfl
            simp only [Act.put]
            refine wpAnyF_take [7] (by kernel_rfl) (i := 2) (v := ?vb3) rfl (by kernel_rfl) (by kernel_rfl) (by kernel_rfl) (fun _ _ _ h => h) (Or.inl ⟨by kernel_rfl, ?hyb3⟩) hHeld ?restb3
            case hyb3 => intro w' hSw; (try dsimp only at hSw); go_simp; try with_reducible rfl
            simp only [Act.put]
            refine wpAnyF_take [7] (by kernel_rfl) (i := 5) (v := ?vb4) rfl (by kernel_rfl) (by kernel_rfl) (by kernel_rfl) (fun _ _ _ h => h) (Or.inl ⟨by kernel_rfl, ?hyb4⟩) hHeld ?restb4
            case hyb4 => intro w' hSw; (try dsimp only at hSw); go_simp; try with_reducible rfl
            simp only [Act.put]
            refine wpAnyF_ready (rs := [3]) (by kernel_rfl) (by simp) ?_
            refine AllReadyF.cons rfl (fun K hK => ?_) AllReadyF.nil
            go_simp
            refine HRo.out.mono ?_
            rintro e w8 ⟨y, m, q, rfl, HO8, HB8⟩
            dsimp only
            clear HRo
            have hb8 : Below wq.heap.size wq w8 := below_to ((Below.refl wq.heap.size wq).drew) HB8.out
            have k2 := Hl6.out.later hb8
            have k3 := Hl7.out.later hb8
            have m8 := Hl1.out.later hb8
            have k5 := Hl5.out.later hb8
            obtain ⟨w9, hw9⟩ : ∃ wx, wx = (w8.setCell ⟨w.heap.size + 1, 0, none⟩ (.slice av Q.length cv)).setCell ⟨w.heap.size + 1, 1, none⟩ (.slice y m q) := ⟨_, rfl⟩
            have u9 : Upd (fun k => k = w.heap.size + 1) w8 w9 := by rw [hw9]; exact ((Upd.refl (fun k => k = w.heap.size + 1) w8).set _ _ (.inl rfl)).set _ _ (.inl rfl)
            have k29 : Blk w9 (w.heap.size + 1) 34 [.slice av Q.length cv, .slice y m q] := by rw [hw9]; exact wr2 k2 _ _
            have k39 := k3.upd u9 (fun e => by omega)
            have k59 := k5.upd u9 (fun e => by omega)
            have kb9 := m8.1.upd u9 (fun e => absurd (blk_type m8.1 (e ▸ k2)) (by decide))
            have HS9 : Hid ((fun w' => w'.cell? ⟨w6.heap.size + 1, 0, none⟩ = some (.slice av Q.length cv) ∧ w'.cell? ⟨w.heap.size, 0, none⟩ = some (.slice a D.length c)) w9) := hide_ (by
              have y0 := kb9.cell 0; have z0 := k59.cell 0
              simp at y0 z0
              exact ⟨y0, z0⟩)
            have uA : Upd (fun k => k = w.heap.size + 1 + 1) w9 ((w9.setCell ⟨w.heap.size + 1 + 1, 0, none⟩ (.int .i64 0)).setCell ⟨w.heap.size + 1 + 1, 1, none⟩ (.int .i64 0)) := ((Upd.refl (fun k => k = w.heap.size + 1 + 1) w9).set _ _ (.inl rfl)).set _ _ (.inl rfl)
            have hro : ROwn w8 w.heap.size (.slice y m q) (rtsP D (bO D o (fun _ => none) []).1) := own_base HO8.out (Nat.le_trans Hl1.out.size (Nat.le_refl _))
            have hB9 : Below w.heap.size w w9 := m8.2.2.2.1.trans (u9.below _ m8.size (fun k e => by omega))
            have HFin : Hid (BuTo D (bO D o (fun _ => none) []).2 (rtsP D (bO D o (fun _ => none) []).1) 0 0 w (.returned (.tuple #[.agg #[.slice av Q.length cv, .slice y m q], .agg #[.int .i64 0, .int .i64 0]])) ((w9.setCell ⟨w.heap.size + 1 + 1, 0, none⟩ (.int .i64 0)).setCell ⟨w.heap.size + 1 + 1, 1, none⟩ (.int .i64 0))) := hide_ ⟨av, Q.length, cv, y, m, q, rfl, ⟨Q, ((m8.2.1.updN u9 k2 (by omega) (by decide) (by decide)).updN uA k39 (by omega) (by decide) (by decide)), Hl2.out⟩, (hro.updN u9 k2 (by decide)).updN uA k39 (by decide), hB9.trans (uA.below _ hB9.size (fun k e => by omega))⟩
            have K28 := hide_ k2
            have K29 := hide_ k29
            have K39 := hide_ k39
            have HB8' := hide_ hb8
            clear k2 k3 m8 k5 u9 k29 k39 k59 kb9 uA hro hB9 hb8 HO8
            refine hK.out _ _ (HSS.out _ HB8'.out) (fun hHeld => ?_)
            clear hK K
            refine wpAnyF_take [7] (by kernel_rfl) (i := 4) (v := ?vb5) rfl (by kernel_rfl) (by kernel_rfl) (by kernel_rfl) (fun _ _ _ h => h) (Or.inl ⟨by kernel_rfl, ?hyb5⟩) hHeld ?restb5
            case hyb5 => intro w' hSw; (try dsimp only at hSw); go_simp; try with_reducible rfl
            simp only [Act.put]
            refine wpAnyF_ready (rs := [6]) (by kernel_rfl) (by simp) ?_
            refine AllReadyF.cons rfl (fun K hK => ?_) AllReadyF.nil
            have q0 := K28.out.cell 0; have q1 := K28.out.cell 1; have qz := fun i => K28.out.frozen i
            simp at q0 q1
            go_simp
            rw [← hw9]
            clear hw9
            refine hK.out _ _ (HS9.out) (fun hHeld => ?_)
            clear hK K
            refine wpAnyF_ready (rs := [7]) (by kernel_rfl) (by simp) ?_
            refine AllReadyF.last rfl (fun K hK => ?_)
            have q0 := K39.out.cell 0; have q1 := K39.out.cell 1; have qz := fun i => K39.out.frozen i
            simp at q0 q1
            go_simp
            refine hK.out _ _ ?_
            clear hK K
            refine wpAnyF_done (by kernel_rfl) ?_ _
            go_wp2_with fail
            have hne2 : w.heap.size + 1 ≠ w.heap.size + 1 + 1 := by omega
            exact retB (a := 0) (b := 0) rfl rfl ((K29.out.other _ _ hne2).other _ _ hne2) (wr2 K39.out _ _) HFin.out
      · --<Q
        have hRT : T = [] ∧ R = [] ∧ E = L1 ∧ A = L2 := by
          have := HRs.out
          simpa [hL0] using this
        obtain ⟨rfl, rfl, rfl, rfl⟩ := hRT
        have HSS : Hid (∀ w', Below w6.heap.size w6 w' → (fun w' => w'.cell? ⟨w3.heap.size, 0, none⟩ = some (.int .i64 E) ∧ w'.cell? ⟨w3.heap.size, 1, none⟩ = some (.int .i64 A)) w') := hide_ (fun w' hb => by
          have y0 := (K86.out.later hb).cell 0; have y1 := (K86.out.later hb).cell 1
          simp at y0 y1
          exact ⟨y0, y1⟩)
        clear HLk HRs HOK HFo
        go_upto_region 9 with fail
        clear d0 d1
        obtain ⟨wd, hwd⟩ : ∃ wx, wx = w6.drew := ⟨_, rfl⟩
        obtain ⟨wz, hwz⟩ : ∃ wx, wx = ((wd.setCell ⟨w.heap.size + 1, 0, none⟩ (.slice none 0 0)).setCell ⟨w.heap.size + 1, 1, none⟩ (.slice none 0 0)) := ⟨_, rfl⟩
        have huz : Upd (fun k => k = w.heap.size + 1) wd wz := by rw [hwz]; exact ((Upd.refl (fun k => k = w.heap.size + 1) wd).set _ _ (.inl rfl)).set _ _ (.inl rfl)
        have kz2 : Blk wz (w.heap.size + 1) 34 [.slice none 0 0, .slice none 0 0] := by rw [hwz]; exact wr2 (hwd ▸ K2f.out.later ((Below.refl w6.heap.size w6).drew)) _ _
        have kz3 := Blk.upd (w := wd) (hwd ▸ K3f.out.later ((Below.refl w6.heap.size w6).drew)) huz (fun e => by omega)
        have kz8 := Blk.upd (w := wd) (hwd ▸ K86.out.later ((Below.refl w6.heap.size w6).drew)) huz (fun e => by omega)
        have HSz : Hid ((fun w' => w'.cell? ⟨w3.heap.size, 0, none⟩ = some (.int .i64 E) ∧ w'.cell? ⟨w3.heap.size, 1, none⟩ = some (.int .i64 A)) wz) := hide_ (by
          have y0 := kz8.cell 0; have y1 := kz8.cell 1
          simp at y0 y1
          exact ⟨y0, y1⟩)
        have hBd : Below w.heap.size w wd := by rw [hwd]; exact below_to HB6.out ((Below.refl w6.heap.size w6).drew)
        have HBz : Hid (Below w.heap.size w wz) := hide_ (hBd.trans (huz.below _ hBd.size (fun k e => by omega)))
        have KZ2 := hide_ kz2
        have KZ3 := hide_ kz3
        have K2d : Hid (Blk wd (w.heap.size + 1) 34 [.slice none 0 0, .slice none 0 0]) := hide_ (hwd ▸ K2f.out.later ((Below.refl w6.heap.size w6).drew))
        clear hBd huz kz2 kz3 kz8
        refine wp_region_last 3 (fun w' => w'.cell? ⟨w3.heap.size, 0, none⟩ = some (.int .i64 E) ∧ w'.cell? ⟨w3.heap.size, 1, none⟩ = some (.int .i64 A)) (by kernel_rfl) (HSS.out _ ((Below.refl w6.heap.size w6).drew)) (fun hHeld => ?_)
        refine wpAnyF_take [3] (by kernel_rfl) (i := 0) (v := ?vy1) rfl (by kernel_rfl) (by kernel_rfl) (by kernel_rfl) (fun _ _ _ h => h) (Or.inl ⟨by kernel_rfl, ?hyy1⟩) hHeld ?resty1
        case hyy1 => intro w' hSw; (try dsimp only at hSw); go_simp; try with_reducible rfl
        simp only [Act.put]
        refine wpAnyF_take [3] (by kernel_rfl) (i := 1) (v := ?vy2) rfl (by kernel_rfl) (by kernel_rfl) (by kernel_rfl) (fun _ _ _ h => h) (Or.inl ⟨by kernel_rfl, ?hyy2⟩) hHeld ?resty2
        case hyy2 => intro w' hSw; (try dsimp only at hSw); go_simp; try with_reducible rfl
        simp only [Act.put]
        refine wpAnyF_ready (rs := [2]) (by kernel_rfl) (by simp) ?_
        refine AllReadyF.cons rfl (fun K hK => ?_) AllReadyF.nil
        rw [← hwd]
        clear hwd
        have q0 := K2d.out.cell 0; have q1 := K2d.out.cell 1; have qz := fun i => K2d.out.frozen i
        simp at q0 q1
        go_simp
        rw [← hwz]
        clear hwz
        refine hK.out _ _ (HSz.out) (fun hHeld => ?_)
        clear hK K
        refine wpAnyF_ready (rs := [3]) (by kernel_rfl) (by simp) ?_
        refine AllReadyF.last rfl (fun K hK => ?_)
        have q0 := KZ3.out.cell 0; have q1 := KZ3.out.cell 1; have qz := fun i => KZ3.out.frozen i
        simp at q0 q1
        go_simp
        refine hK.out _ _ ?_
        clear hK K
        refine wpAnyF_done (by kernel_rfl) ?_ _
        go_wp2_with fail
        have hne2 : w.heap.size + 1 ≠ w.heap.size + 1 + 1 := by omega
        refine retB (a := E) (b := A) rfl rfl ((KZ2.out.other _ _ hne2).other _ _ hne2) (wr2 KZ3.out _ _) (BuTo.nil (below_set2 HBz.out _ _ _ (by omega)))
    · --<F
      have hRT : T = [] ∧ R = [] ∧ E = E1 ∧ A = A1 := by
        have := HRs.out
        rwa [if_neg hE] at this
      obtain ⟨rfl, rfl, rfl, rfl⟩ := hRT
      have hE0 : ¬ E = 0 := fun e => hE ⟨e, (LookTo.zero (e ▸ HLk.out)).2⟩
      have HSS : Hid (∀ w', Below w4.heap.size w4 w' → (fun w' => w'.cell? ⟨w3.heap.size, 0, none⟩ = some (.int .i64 E) ∧ w'.cell? ⟨w3.heap.size, 1, none⟩ = some (.int .i64 A)) w') := hide_ (fun w' hb => by
        have y0 := (K8.out.later hb).cell 0; have y1 := (K8.out.later hb).cell 1
        simp at y0 y1
        exact ⟨y0, y1⟩)
      clear HLk HRs HOK HFo hE
      go_upto_region 6 with fail
      clear d0 d1
      obtain ⟨wd, hwd⟩ : ∃ wx, wx = w4.drew := ⟨_, rfl⟩
      obtain ⟨wz, hwz⟩ : ∃ wx, wx = ((wd.setCell ⟨w.heap.size + 1, 0, none⟩ (.slice none 0 0)).setCell ⟨w.heap.size + 1, 1, none⟩ (.slice none 0 0)) := ⟨_, rfl⟩
      have huz : Upd (fun k => k = w.heap.size + 1) wd wz := by rw [hwz]; exact ((Upd.refl (fun k => k = w.heap.size + 1) wd).set _ _ (.inl rfl)).set _ _ (.inl rfl)
      have kz2 : Blk wz (w.heap.size + 1) 34 [.slice none 0 0, .slice none 0 0] := by rw [hwz]; exact wr2 (hwd ▸ K2c.out.later ((Below.refl w4.heap.size w4).drew)) _ _
      have kz3 := Blk.upd (w := wd) (hwd ▸ K3c.out.later ((Below.refl w4.heap.size w4).drew)) huz (fun e => by omega)
      have kz8 := Blk.upd (w := wd) (hwd ▸ K8.out.later ((Below.refl w4.heap.size w4).drew)) huz (fun e => by omega)
      have HSz : Hid ((fun w' => w'.cell? ⟨w3.heap.size, 0, none⟩ = some (.int .i64 E) ∧ w'.cell? ⟨w3.heap.size, 1, none⟩ = some (.int .i64 A)) wz) := hide_ (by
        have y0 := kz8.cell 0; have y1 := kz8.cell 1
        simp at y0 y1
        exact ⟨y0, y1⟩)
      have hBd : Below w.heap.size w wd := by rw [hwd]; exact below_to HB4.out ((Below.refl w4.heap.size w4).drew)
      have HBz : Hid (Below w.heap.size w wz) := hide_ (hBd.trans (huz.below _ hBd.size (fun k e => by omega)))
      have KZ2 := hide_ kz2
      have KZ3 := hide_ kz3
      have K2d : Hid (Blk wd (w.heap.size + 1) 34 [.slice none 0 0, .slice none 0 0]) := hide_ (hwd ▸ K2c.out.later ((Below.refl w4.heap.size w4).drew))
      clear hBd huz kz2 kz3 kz8
      refine wp_region_last 3 (fun w' => w'.cell? ⟨w3.heap.size, 0, none⟩ = some (.int .i64 E) ∧ w'.cell? ⟨w3.heap.size, 1, none⟩ = some (.int .i64 A)) (by kernel_rfl) (HSS.out _ ((Below.refl w4.heap.size w4).drew)) (fun hHeld => ?_)
      refine wpAnyF_take [3] (by kernel_rfl) (i := 0) (v := ?vx1) rfl (by kernel_rfl) (by kernel_rfl) (by kernel_rfl) (fun _ _ _ h => h) (Or.inl ⟨by kernel_rfl, ?hyx1⟩) hHeld ?restx1
      case hyx1 => intro w' hSw; (try dsimp only at hSw); go_simp; try with_reducible rfl
      simp only [Act.put]
      refine wpAnyF_take [3] (by kernel_rfl) (i := 1) (v := ?vx2) rfl (by kernel_rfl) (by kernel_rfl) (by kernel_rfl) (fun _ _ _ h => h) (Or.inl ⟨by kernel_rfl, ?hyx2⟩) hHeld ?restx2
      case hyx2 => intro w' hSw; (try dsimp only at hSw); go_simp; try with_reducible rfl
      simp only [Act.put]
      refine wpAnyF_ready (rs := [2]) (by kernel_rfl) (by simp) ?_
      refine AllReadyF.cons rfl (fun K hK => ?_) AllReadyF.nil
      rw [← hwd]
      clear hwd
      have q0 := K2d.out.cell 0; have q1 := K2d.out.cell 1; have qz := fun i => K2d.out.frozen i
      simp at q0 q1
      go_simp
      rw [← hwz]
      clear hwz
      refine hK.out _ _ (HSz.out) (fun hHeld => ?_)
      clear hK K
      refine wpAnyF_ready (rs := [3]) (by kernel_rfl) (by simp) ?_
      refine AllReadyF.last rfl (fun K hK => ?_)
      have q0 := KZ3.out.cell 0; have q1 := KZ3.out.cell 1; have qz := fun i => KZ3.out.frozen i
      simp at q0 q1
      go_simp
      refine hK.out _ _ ?_
      clear hK K
      refine wpAnyF_done (by kernel_rfl) ?_ _
      go_wp2_with fail
      have hne2 : w.heap.size + 1 ≠ w.heap.size + 1 + 1 := by omega
      refine retB (a := E) (b := A) rfl rfl ((KZ2.out.other _ _ hne2).other _ _ hne2) (wr2 KZ3.out _ _) (BuTo.nil (below_set2 HBz.out _ _ _ (by omega)))
  · --<S
    have hRT : T = [] ∧ R = [] ∧ E = (ckP D).2.2 ∧ A = 0 := by
      have h9 := h.out
      unfold BlTo at h9
      rw [if_neg hck] at h9
      exact h9
    obtain ⟨rfl, rfl, hE, rfl⟩ := hRT
    have HE := hide_ hE
    have he : ((ckP D).2.2 != 0) = true := by simp [hck]
    have u0 := K2b.out.cell 0; have u1 := K2b.out.cell 1; have t0 := K3b.out.cell 0; have t1 := K3b.out.cell 1
    have hz2 := fun i => K2b.out.frozen i
    have hz3 := fun i => K3b.out.frozen i
    simp at u0 u1 t0 t1
    clear hE hck h
    go_wp2_with fail
    obtain ⟨q1, q2⟩ := wr22z K2b.out K3b.out (.slice none 0 0) (.slice none 0 0) (.int .i64 (ckP D).2.2) (.int .i64 0)
    refine retB (a := (ckP D).2.2) (b := 0) rfl rfl q1 q2 ?_
    rw [HE.out]
    exact BuTo.nil (below_set4 HB2.out _ _ _ _ _ _ (by omega) (by omega))
end Go.Proofs.Ytiemobmbiomocaa

/- The law's awake. -/
namespace Go.Proofs.Ytiemobmbiomocaa
open Go.RowKit
set_option linter.unusedVariables false

theorem nrow_blk {w : World} {g : Nat} {N : List Nd} (h : Blk w g 41 (cellsN N)) : NRow w (some ⟨g, 0, none⟩) N :=
  .inr ⟨g, 0, rfl, h.lt, fun i x hx j hj => by rw [h.cell, Nat.zero_add]; exact cellsN_at N i j x hx hj⟩
theorem trow_plain {w : World} {g : Nat} {T : List Ty} (h : Blk w g 50 (cellsG (fun t => tyc t (.slice none 0 0)) T)) (hp : ∀ t ∈ T, t.ps = []) : TRowz w (some ⟨g, 0, none⟩) T := by
  have hg : GRow 4 (fun t => tyc t (.slice none 0 0)) w (some ⟨g, 0, none⟩) T := blk_grow (fun _ => rfl) h
  rcases hg with hg | ⟨b, o, e, hb, hc⟩
  · exact .inl hg
  · refine .inr ⟨b, o, e, hb, fun i t ht => ⟨none, 0, fun j hj => ?_, ?_, fun _ => rfl, .inl (hp t (List.mem_of_getElem? ht))⟩⟩
    · rw [hc i t ht j hj, hp t (List.mem_of_getElem? ht)]
      rfl
    · rw [hp t (List.mem_of_getElem? ht)]
      exact Nat.le_refl _
def exN : List Nd := [⟨5, 3, ⟨#[]⟩, ⟨#[]⟩, 0, 1, 0⟩, ⟨1, 2, ⟨#[]⟩, ⟨#[]⟩, 0, 0, 0⟩]
def exD : List Df := [⟨⟨#[97]⟩, 0, exN⟩]
def exT : List Ty := [⟨1, 2, 0, []⟩, ⟨5, 3, 0, []⟩]
def exR : List Rt := [⟨⟨#[97]⟩, 1⟩]
theorem ex_us : usD exD = [[]] := by rfl
theorem ex_acy : Acy (usD exD) := by
  rw [ex_us]
  intro i hl
  obtain ⟨n, hn⟩ := hl
  have key : ∀ n a b, ¬ Ld [[]] n a b := by
    intro n
    induction n with
    | zero => intro a b h; cases a <;> simp [Ld, us] at h
    | succ n ih => intro a b ⟨c, h1, h2⟩; exact ih c b h2
  exact key n i i hn
theorem ex_look : LookTo exD 0 0 [0] [2] := by
  refine lookTo_ok (by rfl) (by rfl) ex_acy ?_ rfl ⟨rfl, fun i d hd => ?_⟩ (fun j => ?_)
  · rw [ex_us]
    exact (Ordr.nil ([[]] : List (List Nat))).snoc (n := 0) (by decide) ⟨by simp, by simp [us]⟩ (fun m hm => by omega)
  · match i with
    | 0 => simp [exD] at hd; subst hd; rfl
    | i + 1 => simp [exD] at hd
  · match j with
    | 0 => decide
    | j + 1 => simp
theorem ex_build : BlTo exD exT exR 0 0 := by
  unfold BlTo
  rw [if_pos (by rfl)]
  refine ⟨0, 0, [0], [2], ex_look, ?_⟩
  rw [if_pos ⟨rfl, rfl⟩, if_pos (by rfl)]
  exact ⟨by rfl, by rfl, rfl, rfl⟩
theorem ex_chk : chk [⟨0, 0, 0, []⟩] [] = (92, 0) := by rfl
theorem ex_wt : Wt exD := ⟨by decide, fun d hd => by simp [exD] at hd; subst hd; decide⟩
theorem aE1 (k n d : Int) (w : World) : (Instr.build 41 #[(0, .int .i64 k), (1, .int .i64 n), (5, .int .i64 d)]).run Try.prog w = .ok (.agg #[.int .i64 k, .int .i64 n, .string ⟨#[]⟩, .string ⟨#[]⟩, .int .i64 0, .int .i64 d, .int .i64 0]) w := by kernel_rfl
theorem aE2 (k n : Int) (w : World) : (Instr.build 41 #[(0, .int .i64 k), (1, .int .i64 n)]).run Try.prog w = .ok (.agg #[.int .i64 k, .int .i64 n, .string ⟨#[]⟩, .string ⟨#[]⟩, .int .i64 0, .int .i64 0, .int .i64 0]) w := by kernel_rfl
theorem aD1 (s : ByteArray) (x : Option Addr) (n c : Nat) (w : World) : (Instr.build 39 #[(0, .string s), (2, .slice x n c)]).run Try.prog w = .ok (.agg #[.string s, .int .i64 0, .slice x n c]) w := by kernel_rfl
theorem aS1 (x : Option Addr) (n c : Nat) (w : World) : (Instr.build 25 #[(0, .slice x n c)]).run Try.prog w = .ok (.agg #[.slice x n c]) w := by kernel_rfl
theorem aR1 (s : ByteArray) (k : Int) (w : World) : (Instr.build 47 #[(0, .string s), (1, .int .i64 k)]).run Try.prog w = .ok (.agg #[.string s, .int .i64 k]) w := by kernel_rfl
theorem aT0 (w : World) : (Instr.build 50 #[]).run Try.prog w = .ok (.agg #[.int .i64 0, .int .i64 0, .int .i64 0, .slice none 0 0]) w := by kernel_rfl
theorem aC1 (x : Option Addr) (n c : Nat) (w : World) : (Instr.build 34 #[(0, .slice x n c)]).run Try.prog w = .ok (.agg #[.slice x n c, .slice none 0 0]) w := by kernel_rfl
theorem fldFz (a b : Value) (w : World) : (Instr.field 28 (.agg #[a, b]) 0).run Try.prog w = .ok a w := by kernel_rfl
set_option maxRecDepth 100000 in
set_option maxHeartbeats 8000000 in
theorem awake_any (w : World) : Calls Try.prog 4 #[] w fun e w' => e = .returned (.bool true) ∧ Below w.heap.size w w' := by
  have h1 := aE1; have h2 := aE2; have h3 := aD1; have h4 := aS1; have h5 := bldF0; have h6 := bldT; have h7 := aR1; have h8 := bldSc; have h9 := aT0; have h10 := aC1; have h11 := fldFz
  obtain ⟨W, hW⟩ : ∃ W, (w.alloc (.cells #[.int .i64 5, .int .i64 3, .string ⟨#[]⟩, .string ⟨#[]⟩, .int .i64 0, .int .i64 1, .int .i64 0, .int .i64 1, .int .i64 2, .string ⟨#[]⟩, .string ⟨#[]⟩, .int .i64 0, .int .i64 0, .int .i64 0] 41)).alloc (.cells #[.string ⟨#[97]⟩, .int .i64 0, .slice (some ⟨w.heap.size, 0, none⟩) 2 2] 39) = W := ⟨_, rfl⟩
  have hBW : Below w.heap.size w W := by rw [← hW]; exact below2z _ _ _
  have k0 : Blk W w.heap.size 41 (cellsN exN) := by rw [← hW]; exact (Blk.newA w _ _).alloc _
  have k1 : Blk W (w.heap.size + 1) 39 [.string ⟨#[97]⟩, .int .i64 0, .slice (some ⟨w.heap.size, 0, none⟩) 2 2] := by
    have h := Blk.newA (w.alloc (.cells #[.int .i64 5, .int .i64 3, .string ⟨#[]⟩, .string ⟨#[]⟩, .int .i64 0, .int .i64 1, .int .i64 0, .int .i64 1, .int .i64 2, .string ⟨#[]⟩, .string ⟨#[]⟩, .int .i64 0, .int .i64 0, .int .i64 0] 41)) #[.string ⟨#[97]⟩, .int .i64 0, .slice (some ⟨w.heap.size, 0, none⟩) 2 2] 39
    rw [hW, World.size_alloc] at h
    exact h
  have hDR : DRow W (some ⟨w.heap.size + 1, 0, none⟩) exD := .inr ⟨w.heap.size + 1, 0, rfl, k1.lt, fun i d hd => by
    match i with
    | 0 =>
      simp [exD] at hd
      subst hd
      refine ⟨some ⟨w.heap.size, 0, none⟩, 2, fun j hj => ?_, by decide, fun h => (by cases h), nrow_blk k0⟩
      rw [k1.cell]
      match j, hj with
      | 0, _ => rfl
      | 1, _ => rfl
      | 2, _ => rfl
    | i + 1 => simp [exD] at hd⟩
  have HC1 : Hid (Calls Try.prog 6 #[.agg #[.slice (some ⟨w.heap.size + 1, 0, none⟩) 1 1]] W fun e w' => BuTo exD exT exR 0 0 W e w') := hide_ (build_any (hide_ ex_build) (some ⟨w.heap.size + 1, 0, none⟩) 1 W (hide_ ex_wt) (hide_ (fun d hd => by simp [exD] at hd; subst hd; decide)) (hide_ hDR))
  have HBW := hide_ hBW
  clear k0 k1 hDR hBW
  go_enter Try.func4, Try.ntmps4
  go_upto_region 2 with (go_at_call 6; refine HC1.out.mono ?_; rintro e w1 ⟨x, n, p, y, m, q, rfl, HQ, hRo, hB1⟩; have HQ1 := hide_ HQ; have HRo := hide_ hRo; have HB1 := hide_ hB1; clear HQ hRo hB1)
  clear HC1 hW
  obtain ⟨Q, hQ, hQT⟩ := HQ1.out
  obtain ⟨x', p', e1, hT1⟩ := hQ.row
  rw [hQT] at e1 hT1
  obtain ⟨y', q', e2, -, -, hR1⟩ := own_grow rtc_len HRo.out
  obtain ⟨rfl, rfl, rfl⟩ : x = x' ∧ n = 2 ∧ p = p' := by injection e1 with a b c; exact ⟨a, b, c⟩
  obtain ⟨rfl, rfl, rfl⟩ : y = y' ∧ m = 1 ∧ q = q' := by injection e2 with a b c; exact ⟨a, b, c⟩
  clear e1 e2 hQ HQ1
  obtain ⟨w2, hw2⟩ : ∃ wx, wx = (w1.alloc (.cells #[.slice x 2 p, .slice y 1 q] 34)).alloc (.cells #[.int .i64 0, .int .i64 0] 28) := ⟨_, rfl⟩
  have hB2 : Below w1.heap.size w1 w2 := by rw [hw2]; exact below2z _ _ _
  obtain ⟨ks, kf⟩ := blk2z w1 #[.slice x 2 p, .slice y 1 q] #[.int .i64 0, .int .i64 0] 34 28
  rw [← hw2] at ks kf
  rw [← hw2]
  clear hw2
  obtain ⟨w3, hw3⟩ : ∃ wx, (w2.alloc (.cells #[.int .i64 1, .int .i64 2, .int .i64 0, .slice none 0 0, .int .i64 5, .int .i64 3, .int .i64 0, .slice none 0 0] 50)).alloc (.cells #[.string ⟨#[97]⟩, .int .i64 1] 47) = wx := ⟨_, rfl⟩
  have hB3 : Below w2.heap.size w2 w3 := by rw [← hw3]; exact below2z _ _ _
  obtain ⟨kt, kr⟩ := blk2z w2 #[.int .i64 1, .int .i64 2, .int .i64 0, .slice none 0 0, .int .i64 5, .int .i64 3, .int .i64 0, .slice none 0 0] #[.string ⟨#[97]⟩, .int .i64 1] 50 47
  rw [hw3] at kt kr
  have hT3 : TRowz w3 (some ⟨w2.heap.size, 0, none⟩) exT := trow_plain kt (fun t ht => by simp [exT] at ht; rcases ht with rfl | rfl <;> rfl)
  have hR3 : RRow w3 (some ⟨w2.heap.size + 1, 0, none⟩) exR := blk_grow rtc_len kr
  have hb13 := below_to hB2 hB3
  have HC2 : Hid (Calls Try.prog 9 #[.agg #[.slice x 2 p, .slice y 1 q], .agg #[.slice (some ⟨w2.heap.size, 0, none⟩) 2 2, .slice (some ⟨w2.heap.size + 1, 0, none⟩) 1 1]] w3 fun e w' => e = .returned (.bool true) ∧ Below w3.heap.size w3 w') := hide_ (same_yes x p y q (some ⟨w2.heap.size, 0, none⟩) 2 (some ⟨w2.heap.size + 1, 0, none⟩) 1 exT exR w3 (by decide) (by decide) (hide_ ⟨by decide, fun t ht => by simp [exT] at ht; rcases ht with rfl | rfl <;> decide⟩) (hide_ (hT1.later hb13)) (hide_ (hR1.later hb13)) (hide_ hT3) (hide_ hR3))
  have s0 := ks.cell 0; have s1 := ks.cell 1; have f0 := kf.cell 0; have f1 := kf.cell 1
  simp at s0 s1 f0 f1
  have HKs := hide_ ks
  have HT1 := hide_ hT1
  have HR1 := hide_ hR1
  have HB3 := hide_ hB3
  have HB13 := hide_ hb13
  clear hT3 hR3 kt kr hT1 hR1 hB3 hb13 ks kf hQT HRo
  go_upto_region 4 with (go_at_call 9; refine HC2.out.mono ?_; rintro e w4 ⟨rfl, hB4⟩; have HB4 := hide_ hB4; clear hB4)
  clear HC2 s0 s1 f0 f1 hw3
  have s0 := (HKs.out.later (below_to HB3.out HB4.out)).cell 0; have s1 := (HKs.out.later (below_to HB3.out HB4.out)).cell 1
  simp at s0 s1
  have HC3 : Hid (Calls Try.prog 8 #[.agg #[.slice x 2 p, .slice y 1 q], .string ⟨#[98]⟩] w4 fun e w' => e = .returned (.tuple #[.int .i64 0, .int .i64 93]) ∧ Below w4.heap.size w4 w') := hide_ (find_anyz (.slice x 2 p) y q exR ⟨#[98]⟩ w4 (by decide) (hide_ ((HR1.out.later HB13.out).later HB4.out)))
  go_upto_region 5 with (go_at_call 8; refine HC3.out.mono ?_; rintro e w5 ⟨rfl, hB5⟩; have HB5 := hide_ hB5; clear hB5)
  clear HC3 s0 s1
  obtain ⟨w6, hw6⟩ : ∃ wx, w5.alloc (.cells #[.int .i64 0, .int .i64 0, .int .i64 0, .slice none 0 0] 50) = wx := ⟨_, rfl⟩
  have hB6 : Below w5.heap.size w5 w6 := by rw [← hw6]; exact below1 _ _
  have kt : Blk w6 w5.heap.size 50 [.int .i64 0, .int .i64 0, .int .i64 0, .slice none 0 0] := by rw [← hw6]; exact Blk.newA w5 _ _
  have hT6 : TRowz w6 (some ⟨w5.heap.size, 0, none⟩) [⟨0, 0, 0, []⟩] := trow_plain kt (fun t ht => by simp at ht; subst ht; rfl)
  have HC4 : Hid (Calls Try.prog 7 #[.agg #[.slice (some ⟨w5.heap.size, 0, none⟩) 1 1, .slice none 0 0]] w6 fun e w' => e = .returned (.agg #[.int .i64 92, .int .i64 0]) ∧ Below w6.heap.size w6 w') := hide_ (check_anyz (some ⟨w5.heap.size, 0, none⟩) 1 [⟨0, 0, 0, []⟩] none 0 [] w6 (by decide) (by decide) (hide_ ⟨by decide, fun t ht => by simp at ht; subst ht; decide⟩) (hide_ hT6) (hide_ (.inl rfl)))
  have HB6 := hide_ hB6
  clear kt hT6 hB6
  go_wp2_with (go_at_call 7; refine HC4.out.mono ?_; rintro e w7 ⟨rfl, hB7⟩; have HB7 := hide_ hB7; clear hB7)
  go_ret
  exact ⟨rfl, below_to HBW.out (below_to HB1.out (below_to HB13.out (below_to HB4.out (below_to HB5.out (below_to HB6.out HB7.out)))))⟩
end Go.Proofs.Ytiemobmbiomocaa

/- TypesRight: its walk. -/
namespace Go.Proofs.Ytiemobmbiomocaa
open Go.RowKit
set_option linter.unusedVariables false

/-- The source and what is built of it, in memory. -/
structure RmM (w : World) (bs bx : Nat) (a : Option Addr) (c : Nat) (D : List Df) (x : Option Addr) (p : Nat) (T : List Ty) (y : Option Addr) (q : Nat) (R : List Rt) : Prop where
  ks : Blk w bs 25 [.slice a D.length c]
  kx : Blk w bx 34 [.slice x T.length p, .slice y R.length q]
  d : DRow w a D
  t : TRowz w x T
  r : RRow w y R
theorem RmM.later {w w' : World} {bs bx : Nat} {a : Option Addr} {c : Nat} {D : List Df} {x : Option Addr} {p : Nat} {T : List Ty} {y : Option Addr} {q : Nat} {R : List Rt} (h : RmM w bs bx a c D x p T y q R) (hB : Below w.heap.size w w') : RmM w' bs bx a c D x p T y q R :=
  ⟨h.ks.later hB, h.kx.later hB, h.d.later hB, h.t.later hB, h.r.later hB⟩
/-- Parts stay where a box of integers is written. -/
theorem PtIn.upd2 {w w' : World} {B : Nat} {ps : List Ptz} {u : Value} {g : Nat} {t : TypeId} {i j : Int} (h : PtIn w B ps u) (hu : Upd (fun k => k = g) w w') (hb : Blk w g t [.int .i64 i, .int .i64 j]) : PtIn w' B ps u := by
  obtain ⟨va, vc, e, h1, h2, h3, h4⟩ := h
  cases ps with
  | nil => exact ⟨va, vc, e, h1, h2, .inl rfl, .inl rfl⟩
  | cons p ps =>
    obtain ⟨b, off, rfl, hb2, hc⟩ := h3.open (by simp)
    have hne : b ≠ g := fun eb => by
      subst eb
      have k1 := hc 0 p rfl 0 (by decide)
      rw [hb.cell] at k1
      have k2 : (ptc p)[0]? = some (.string p.label) := rfl
      rw [k2] at k1
      match off, k1 with
      | 0, k1 => simp at k1
      | 1, k1 => simp at k1
      | n + 2, k1 => simp at k1
    refine ⟨_, vc, e, h1, h2, h3.upd hu (fun x hx => by injection hx with hx; subst hx; exact hne), ?_⟩
    rcases h4 with h4 | h4
    · cases h4
    · refine .inr (fun x hx => ?_)
      rcases h4 x hx with h | ⟨ys, h⟩
      · exact .inl h
      · refine .inr ⟨ys, h.upd hu ?_⟩
        injection hx with hx
        subst hx
        exact hne
/-- The loop over a type's parts. -/
structure InT (w6 wy : World) (bz : Nat) (t : Ty) (va : Option Addr) (vc : Nat) (T : List Ty) (R : List Rt) (l : Nat) (S : List Nat) (k : Nat) : Prop where
  bx : Blk wy bz 50 [.int .i64 t.k, .int .i64 t.n, .int .i64 t.e, .slice va t.ps.length vc]
  us : Blk wy w6.heap.size 4 (bits T.length S)
  bel : Below w6.heap.size w6 wy
  rt : mkRt R R.length S
  ty : mkTy T l S
  el : hasE t.k = true → t.e.toNat ∈ S
  ps : ∀ q ∈ t.ps.take k, q.ty.toNat ∈ S
theorem InT.mark {w6 wz : World} {bz : Nat} {t : Ty} {va : Option Addr} {vc : Nat} {T : List Ty} {R : List Rt} {l : Nat} {S : List Nat} {k e : Nat} (hb : Blk wz bz 50 [.int .i64 t.k, .int .i64 t.n, .int .i64 t.e, .slice va t.ps.length vc]) (hu : Blk wz w6.heap.size 4 (bits T.length S)) (hB : Below w6.heap.size w6 wz) (he : e < T.length) (hz : w6.heap.size < bz) (h1 : mkRt R R.length S) (h2 : mkTy T l S) (h3 : ∀ q ∈ t.ps.take k, q.ty.toNat ∈ S) (h4 : hasE t.k = true → t.e.toNat ∈ S ++ [e]) :
    InT w6 (wz.setCell ⟨w6.heap.size, e, none⟩ (.bool true)) bz t va vc T R l (S ++ [e]) k := by
  have u5 : Upd (fun k => k = w6.heap.size) wz (wz.setCell ⟨w6.heap.size, e, none⟩ (.bool true)) := (Upd.refl _ _).set _ _ (.inl rfl)
  exact ⟨hb.upd u5 (by omega), by rw [← bits_set _ _ _ he]; exact hu.set e _, hB.trans (u5.below _ hB.size (fun k e => by omega)), fun r hr => List.mem_append_left _ (h1 r hr), fun t ht => ⟨fun h => List.mem_append_left _ ((h2 t ht).1 h), fun q hq => List.mem_append_left _ ((h2 t ht).2 q hq)⟩, h4, fun q hq => List.mem_append_left _ (h3 q hq)⟩
theorem InT.next {w6 wz : World} {bz : Nat} {t : Ty} {va : Option Addr} {vc : Nat} {T : List Ty} {R : List Rt} {l : Nat} {S : List Nat} {k e : Nat} {q : Ptz} (h : InT w6 wz bz t va vc T R l S k) (he : e < T.length) (hz : w6.heap.size < bz) (hq : t.ps[k]? = some q) (hqe : q.ty.toNat = e) : InT w6 (wz.setCell ⟨w6.heap.size, e, none⟩ (.bool true)) bz t va vc T R l (S ++ [e]) (k + 1) := by
  have h1 := InT.mark (k := k) h.bx h.us h.bel he hz h.rt h.ty h.ps (fun hh => List.mem_append_left _ (h.el hh))
  refine ⟨h1.bx, h1.us, h1.bel, h1.rt, h1.ty, h1.el, fun q' hq' => ?_⟩
  rcases take_in hq hq' with h2 | h2
  · exact h1.ps q' h2
  · subst h2; rw [hqe]; simp
theorem InT.done {w6 wz : World} {bz : Nat} {t : Ty} {va : Option Addr} {vc : Nat} {T : List Ty} {R : List Rt} {l : Nat} {S : List Nat} (h : InT w6 wz bz t va vc T R l S t.ps.length) (ht : T[l]? = some t) : mkTy T (l + 1) S := fun t' ht' => by
  rcases take_in ht ht' with h2 | h2
  · exact h.ty t' h2
  · subst h2
    refine ⟨h.el, fun q hq => h.ps q ?_⟩
    rw [List.take_length]
    exact hq
theorem bldF9 (w : World) : (Instr.build 28 #[]).run Try.prog w = .ok (.agg #[.int .i64 0, .int .i64 0]) w := by kernel_rfl
set_option maxRecDepth 100000 in
set_option maxHeartbeats 8000000 in
theorem right_any (s : ByteArray) (w : World) :
    Calls Try.prog 3 #[.string s] w fun e w' => e = .returned (.bool true) ∧ Below w.heap.size w w' := by
  have HAw := hide_ (awake_any w)
  go_enter Try.func3, Try.ntmps3
  go_wp2_with fail
  refine HAw.out.mono ?_; rintro e w1 ⟨rfl, hB1⟩
  have HB1 := hide_ hB1
  clear hB1 HAw
  obtain ⟨D, E, A, hp⟩ : ∃ D E A, prsT s = (D, E, A) := ⟨_, _, _, rfl⟩
  have Hp := hide_ hp
  clear hp
  go_wp2_with fail
  refine (parse_is Hp.out w1).mono ?_; rintro e w2 ⟨a, c, vs, rfl, hc, HS, HD, HB2'⟩
  have HB2 := hide_ (below_to HB1.out HB2'.out)
  have HSm : Hid (Small D) := hide_ (by have h := prs_small (s := s) (by rw [Hp.out]; exact HD.out.2); rw [Hp.out] at h; exact h)
  have HD256 := hide_ HD.out.2
  have HDr := hide_ HD.out.1
  clear HB1 HB2' HS HD vs hc
  obtain ⟨Ei, hEi⟩ : ∃ Ei : Int, (E : Int) = Ei := ⟨_, rfl⟩
  obtain ⟨Ai, hAi⟩ : ∃ Ai : Int, (A : Int) = Ai := ⟨_, rfl⟩
  rw [hEi, hAi]
  clear hEi hAi Hp
  obtain ⟨n, hn⟩ : ∃ n, D.length = n := ⟨_, rfl⟩
  have Hn := hide_ hn
  rw [hn]
  clear hn
  obtain ⟨w3, hw3⟩ : ∃ wx, wx = (w2.alloc (.cells #[.slice a n c] 25)).alloc (.cells #[.int .i64 Ei, .int .i64 Ai] 28) := ⟨_, rfl⟩
  have q1 : Blk w3 w2.heap.size 25 [.slice a n c] := by rw [hw3]; exact (Blk.newA w2 #[.slice a n c] 25).alloc _
  have q2 : Blk w3 (w2.heap.size + 1) 28 [.int .i64 Ei, .int .i64 Ai] := by rw [hw3]; have h := Blk.newA (w2.alloc (.cells #[.slice a n c] 25)) #[.int .i64 Ei, .int .i64 Ai] 28; simpa using h
  have hB3 : Below w2.heap.size w2 w3 := by rw [hw3]; exact below2z w2 _ _
  have HB3 := hide_ (below_to HB2.out hB3)
  have HD3 := hide_ (HDr.out.later hB3)
  have HQ1 := hide_ q1
  have HQ2 := hide_ q2
  have HBx := hide_ hB3
  have HS2 : Hid (w.heap.size ≤ w2.heap.size + 1) := hide_ (by have := HB2.out.size; omega)
  clear q1 q2 hB3 HB2
  go_upto_region 4 with fail
  rw [← hw3]
  clear hw3
  have f0 := HQ2.out.cell 0
  have x0 := HQ1.out.cell 0
  simp at f0 x0
  by_cases h0 : Ei = 0
  · subst h0
    obtain ⟨T, R, E1, A1, hBl⟩ := blTo_ex D
    have HBl := hide_ hBl
    clear hBl
    have HBu := hide_ (build_any HBl a c w3 (hide_ HSm.out.wt) (hide_ (fun d hd => by have := HSm.out.2 d hd; omega)) HD3)
    rw [Hn.out] at HBu
    go_wp2_with fail
    refine HBu.out.mono ?_; rintro e w4 ⟨x, nx, p, y, ny, q, rfl, HQ, hRo, hB4⟩
    obtain ⟨Q, hQ, hQT⟩ := HQ
    have hB34 := below_to HB3.out hB4
    have hb4 := below1 w4 (.cells #[.slice x nx p, .slice y ny q] 34)
    have kx4 := Blk.newA w4 #[.slice x nx p, .slice y ny q] 34
    have kf4 := (HQ2.out.later hB4).later hb4
    have ks4 := (HQ1.out.later hB4).later hb4
    have hQ4 := hQ.later hb4
    have hR4 := hRo.later hb4
    have hD4 := (HD3.out.later hB4).later hb4
    have c0 : (w4.alloc (.cells #[.slice x nx p, .slice y ny q] 34)).cell? ⟨w2.heap.size + 1, 0, none⟩ = some (.int .i64 0) := kf4.cell 0
    have c1 : (w4.alloc (.cells #[.slice x nx p, .slice y ny q] 34)).cell? ⟨w2.heap.size + 1, 1, none⟩ = some (.int .i64 Ai) := kf4.cell 1
    have z0 := fun i => kf4.frozen i
    obtain ⟨wa, hwa⟩ : ∃ wx, wx = w4.alloc (.cells #[.slice x nx p, .slice y ny q] 34) := ⟨_, rfl⟩
    rw [← hwa] at hb4 kx4 kf4 ks4 hQ4 hR4 hD4
    obtain ⟨w5, hw5⟩ : ∃ wx, wx = (wa.setCell ⟨w2.heap.size + 1, 0, none⟩ (.int .i64 E1)).setCell ⟨w2.heap.size + 1, 1, none⟩ (.int .i64 A1) := ⟨_, rfl⟩
    have u5 : Upd (fun k => k = w2.heap.size + 1) wa w5 := by rw [hw5]; exact ((Upd.refl (fun k => k = w2.heap.size + 1) _).set _ _ (.inl rfl)).set _ _ (.inl rfl)
    have hs2 : w.heap.size ≤ w2.heap.size + 1 := HS2.out
    have hs4 : w2.heap.size + 1 < w4.heap.size := Nat.lt_of_lt_of_le HQ2.out.lt hB4.size
    have hB5 : Below w.heap.size w w5 := (hB34.trans (hb4.mono hB34.size)).trans (u5.below _ (Nat.le_trans hB34.size hb4.size) (fun k e => by omega))
    have kx5 := kx4.upd u5 (by omega)
    have ks5 := ks4.upd u5 (by omega)
    have kf5 : Blk w5 (w2.heap.size + 1) 28 [.int .i64 E1, .int .i64 A1] := by rw [hw5]; have := (kf4.set 0 (.int .i64 E1)).set 1 (.int .i64 A1); simpa using this
    have hD5 : DRow w5 a D := HDr.out.later (HBx.out.trans ((hB4.mono HBx.out.size).trans ((hb4.mono (by omega)).trans (u5.below _ (Nat.le_trans (by omega) hb4.size) (fun k e => by omega)))))
    have hR5 : ROwn w5 w3.heap.size (.slice y ny q) R := ROwn.updN hR4 u5 kf4 (by decide)
    have hT5 : TRowz w5 x T ∧ nx = T.length := by
      have h9 : TOwn w5 w3.heap.size (.slice x nx p) Q := ⟨ownS_upd hQ4.1 u5 (fun k hk e => by
        obtain ⟨zs, hz⟩ := ownS_type hQ4.1 hk
        subst e
        exact absurd (blk_type kf4 hz) (by decide)), fun pp hpp => (hQ4.2 pp hpp).upd2 u5 kf4⟩
      obtain ⟨x', p', e1, hT1⟩ := h9.row
      rw [hQT] at e1 hT1
      injection e1 with e1 e2 e3
      subst e1
      exact ⟨hT1, e2⟩
    obtain ⟨hT5, rfl⟩ := hT5
    obtain ⟨hR6, rfl⟩ : RRow w5 y R ∧ ny = R.length := by
      obtain ⟨y', q', e2, -, -, hR1⟩ := own_grow rtc_len hR5
      injection e2 with e1 e2 e3
      subst e1
      exact ⟨hR1, e2⟩
    have HM5 : Hid (RmM w5 w2.heap.size w4.heap.size a c D x p T y q R) := hide_ ⟨by rw [Hn.out]; exact ks5, kx5, hD5, hT5, hR6⟩
    have HB5 := hide_ hB5
    have HKf := hide_ kf5
    clear hB34 hb4 kx4 kf4 ks4 hQ4 hR4 hD4 u5 hs2 hs4 hB5 kx5 ks5 kf5 hD5 hT5 hR5 hR6 hQ hQT hRo HBu f0 x0 hB4 HQ1 HQ2 HD3
    go_upto_region 7 with fail
    rw [← hwa, ← hw5]
    clear hwa hw5 c0 c1 z0
    have f0 := HKf.out.cell 0
    have x0 := HM5.out.kx.cell 0; have x1 := HM5.out.kx.cell 1; have s0 := HM5.out.ks.cell 0
    simp at f0 x0 x1 s0
    rw [Hn.out] at s0
    by_cases h1 : E1 = 0
    · subst h1
      have HRt := hide_ HBl.out.rt
      have HLs := hide_ (HBl.out.lens (fun d hd => by have := HSm.out.2 d hd; omega))
      have HTl := HLs.out.1
      have HRl := HLs.out.2.1
      have hn256 : n ≤ 256 := by rw [← Hn.out]; exact HD256.out
      clear HBl HKf HDr HBx HS2 HD256 HB3
      go_wp2_with fail
      clear f0
      go_loopw [6, 7] (fun x6 x7 wr => ∃ (i m : Nat), i ≤ n ∧ x6 = .int .i64 (m : Int) ∧ x7 = .int .i64 (i : Int) ∧ Hid (((D.take i).map (fun d => cntX d.ty)).sum = m) ∧ w5 = wr) (fun _ x7 _ => n - (intOf x7).toNat)
      case atStart => exact ⟨0, 0, Nat.zero_le _, rfl, rfl, hide_ (by simp), rfl⟩
      case round =>
        obtain ⟨i, m, hi, rfl, rfl, Hm, rfl⟩ := hrel
        have hm : m ≤ 256000000 := by
          rw [← Hm.out]
          have h1 := sum_le HSm.out.2 i
          have h2 : D.length * 1000000 ≤ 256 * 1000000 := Nat.mul_le_mul_right _ (by rw [Hn.out]; exact hn256)
          exact Nat.le_trans h1 h2
        by_cases hlt : i < n
        · have hlt' : (i : Int) < n := by omega
          have hiD : i < D.length := by rw [Hn.out]; exact hlt
          obtain ⟨b, o, rfl, hb, hcs⟩ := HM5.out.d.open (by omega)
          have hd : D[i]? = some (D[i]'hiD) := List.getElem?_eq_getElem hiD
          obtain ⟨va, vc, h1, hv1, hvn, hN⟩ := hcs i _ hd
          have hty : (D[i]'hiD).ty.length ≤ 1000000 := HSm.out.2 _ (List.getElem_mem hiD)
          generalize D[i]'hiD = d at *
          have p2 : w5.cell? ⟨b, o + i * 3 + 2, none⟩ = some (.slice va d.ty.length vc) := h1 2 (by decide)
          have HN := hide_ hN
          have Hd := hide_ hd
          clear hcs h1 hN hd hiD
          go_wp2_with fail
          go_loopw [6, 8] (fun x6 x8 wr => ∃ (k l : Nat), k ≤ d.ty.length ∧ x6 = .int .i64 (l : Int) ∧ x8 = .int .i64 (k : Int) ∧ Hid (m + cntX (d.ty.take k) = l) ∧ w5 = wr) (fun _ x8 _ => d.ty.length - (intOf x8).toNat)
          case atStart => exact ⟨0, m, Nat.zero_le _, rfl, rfl, hide_ (by simp [cntX]), rfl⟩
          case round =>
            obtain ⟨k, l, hk, rfl, rfl, Hl, rfl⟩ := hrel
            have hl : l ≤ 257000000 := by
              rw [← Hl.out]
              have := cnt_le d.ty k
              omega
            by_cases hk2 : k < d.ty.length
            · have hk3 : (k : Int) < (d.ty.length : Int) := by omega
              obtain ⟨b', o', rfl, hb', hcs'⟩ := HN.out.open (by omega)
              have hx : d.ty[k]? = some (d.ty[k]'hk2) := List.getElem?_eq_getElem hk2
              have h1 := hcs' k _ hx
              have Hct := hide_ (cnt_take hx)
              generalize d.ty[k]'hk2 = z at *
              have q0 : w5.cell? ⟨b', o' + k * 7, none⟩ = some (.int .i64 z.k) := h1 0 (by decide)
              clear h1 hcs' hx
              by_cases h9 : z.k = 9
              · have Hl2 : Hid (m + cntX (d.ty.take (k + 1)) = l) := hide_ (by rw [Hct.out, if_pos h9, Nat.add_zero]; exact Hl.out)
                have h9d : decide (z.k = 9) = true := decide_eq_true h9
                go_wp2_with fail
                go_roundw
                case rel => exact ⟨k + 1, l, by omega, rfl, by go_num, Hl2, (by first | rfl | trivial)⟩
                case measure => simp [intOf]; omega
              · have Hl2 : Hid (m + cntX (d.ty.take (k + 1)) = l + 1) := hide_ (by rw [Hct.out, if_neg h9, ← Hl.out]; omega)
                have h9d : decide (z.k = 9) = false := decide_eq_false h9
                go_wp2_with fail
                go_roundw
                case rel => exact ⟨k + 1, l + 1, by omega, by go_num, by go_num, Hl2, (by first | rfl | trivial)⟩
                case measure => simp [intOf]; omega
            · obtain rfl : k = d.ty.length := by omega
              have hk3 : ¬ (d.ty.length : Int) < (d.ty.length : Int) := by omega
              have Hm2 : Hid (((D.take (i + 1)).map (fun d => cntX d.ty)).sum = l) := hide_ (by rw [sum_take Hd.out, Hm.out, ← Hl.out, List.take_length])
              go_wp2_with fail
              go_roundw
              case rel => exact ⟨i + 1, l, by omega, rfl, by go_num, Hm2, (by first | rfl | trivial)⟩
              case measure => simp [intOf]; omega
        · obtain rfl : i = n := by omega
          have hlt' : ¬ (i : Int) < (i : Int) := by omega
          obtain rfl : m = T.length := by
            have h1 := Hm.out
            rw [← Hn.out, List.take_length] at h1
            rw [HRt.out.cnt, h1]
          have HCk := hide_ (check_anyz x p T y q R w5 (by omega) (by omega) (hide_ HLs.out.2.2) (hide_ HM5.out.t) (hide_ HM5.out.r))
          rw [HRt.out.chk] at HCk
          simp only at HCk
          have hbf := bldF9
          clear Hm hm hi
          go_upto_region 18 with fail
          go_wp2_with fail
          refine HCk.out.mono ?_; rintro e w6 ⟨rfl, hB6⟩
          have HM6 := hide_ (HM5.out.later hB6)
          have HB6 := hide_ (below_to HB5.out hB6)
          clear hB6 HCk x0 x1 s0 HM5 HB5
          have x0 := HM6.out.kx.cell 0; have x1 := HM6.out.kx.cell 1; have s0 := HM6.out.ks.cell 0
          simp at x0 x1 s0
          rw [Hn.out] at s0
          have hRn : R.length = i := by rw [HRt.out.len, Hn.out]
          have hmk := run_make_row' (P := Try.prog) 43 4 (.bool false) 1 Try.underlying43 (by kernel_rfl) rfl .i64 .i64 T.length (by omega) (by omega)
          obtain ⟨w7, hw7⟩ : ∃ wx, wx = w6.alloc (.cells (madeCells #[.bool false] T.length) 4) := ⟨_, rfl⟩
          have HU7 : Hid (Blk w7 w6.heap.size 4 (bits T.length [])) := hide_ (by
            have h := Blk.newA w6 (madeCells #[.bool false] T.length) 4
            rw [toList_madeCells_one, ← hw7] at h
            rw [bits_nil]
            exact h)
          have HB7 : Hid (Below w6.heap.size w6 w7) := hide_ (by rw [hw7]; exact below1 w6 _)
          go_upto_region 21 with fail
          rw [← hw7]
          clear hw7 hmk hRn x0 x1 s0 hbf
          have x1 := (HM6.out.later HB7.out).kx.cell 1
          simp at x1
          go_wp2_with fail
          clear x1
          go_loopw [10] (fun x10 wr => ∃ (j : Nat) (S : List Nat), j ≤ R.length ∧ x10 = .int .i64 (j : Int) ∧ Hid (mkRt R j S) ∧ Hid (Blk wr w6.heap.size 4 (bits T.length S)) ∧ Hid (Below w6.heap.size w6 wr)) (fun x10 _ => R.length - (intOf x10).toNat)
          case atStart => exact ⟨0, [], Nat.zero_le _, rfl, hide_ (fun r hr => by simp at hr), HU7, HB7⟩
          case round =>
            clear HU7 HB7
            obtain ⟨j, S, hj, rfl, HmR, HU, HBw⟩ := hrel
            generalize wr = wq at *
            have HMq := hide_ (HM6.out.later HBw.out)
            have x0 := HMq.out.kx.cell 0; have x1 := HMq.out.kx.cell 1; have s0 := HMq.out.ks.cell 0
            simp at x0 x1 s0
            rw [Hn.out] at s0
            by_cases hlj : j < R.length
            · have hlj' : (j : Int) < (R.length : Int) := by omega
              have hjD : j < D.length := by rw [← HRt.out.len]; exact hlj
              have hji : (j : Int) < (i : Int) := by have := Hn.out; omega
              obtain ⟨br, orr, rfl, hbr, hcr⟩ := HMq.out.r.open (by omega)
              obtain ⟨bd, od, rfl, hbd, hcd⟩ := HMq.out.d.open (by omega)
              have hd : D[j]? = some (D[j]'hjD) := List.getElem?_eq_getElem hjD
              obtain ⟨t, ht1, ht2, ht3⟩ := HRt.out.nm j _ hd
              obtain ⟨va, vc, h1, -⟩ := hcd j _ hd
              have HR1 : Hid (mkRt R (j + 1) (S ++ [t])) := hide_ (fun r hr => by
                rcases take_in ht1 hr with h | h
                · exact List.mem_append_left _ (HmR.out r h)
                · subst h; simp)
              generalize D[j]'hjD = d at *
              have r0 : wq.cell? ⟨br, orr + j * 2, none⟩ = some (.string d.name) := hcr j _ ht1 0 (by decide)
              have r1 : wq.cell? ⟨br, orr + j * 2 + 1, none⟩ = some (.int .i64 (t : Int)) := hcr j _ ht1 1 (by decide)
              have d0 : wq.cell? ⟨bd, od + j * 3, none⟩ = some (.string d.name) := h1 0 (by decide)
              have HFn := hide_ (find_anyz (.slice x T.length p) (some ⟨br, orr, none⟩) q R d.name wq.drew (by omega) (hide_ (HMq.out.r.later ((Below.refl wq.heap.size wq).drew))))
              have e1 : fndN R d.name = (j : Int) := by unfold fndN; rw [ht3, if_neg (by omega)]
              have e2 : fndEz R d.name = 0 := by unfold fndEz; rw [ht3, if_neg (by omega)]
              rw [e1, e2] at HFn
              have HSS : Hid (∀ w', Below wq.heap.size wq w' → (fun w' => w'.cell? ⟨w4.heap.size, 0, none⟩ = some (.slice x T.length p) ∧ w'.cell? ⟨w4.heap.size, 1, none⟩ = some (.slice (some ⟨br, orr, none⟩) R.length q) ∧ w'.cell? ⟨br, orr + j * 2, none⟩ = some (.string d.name)) w') := hide_ (fun w' hb => by
                have y0 := (HMq.out.kx.later hb).cell 0; have y1 := (HMq.out.kx.later hb).cell 1
                simp at y0 y1
                exact ⟨y0, y1, (hb.cell (p := ⟨br, orr + j * 2, none⟩) hbr).trans r0⟩)
              have Hr1 := hide_ r1
              have Hr0 := hide_ r0
              have Hd0 := hide_ d0
              clear r0 r1 d0 e1 e2 hcr hcd h1 ht1 ht3 hd HmR hjD x0 s0
              go_upto_region 24 with fail
              clear x1
              refine wp_region_last 12 (fun w' => w'.cell? ⟨w4.heap.size, 0, none⟩ = some (.slice x T.length p) ∧ w'.cell? ⟨w4.heap.size, 1, none⟩ = some (.slice (some ⟨br, orr, none⟩) R.length q) ∧ w'.cell? ⟨br, orr + j * 2, none⟩ = some (.string d.name)) (by kernel_rfl) (HSS.out _ ((Below.refl wq.heap.size wq).drew)) (fun hHeld => ?_)
              refine wpAnyF_take [12] (by kernel_rfl) (i := 0) (v := ?vo1) rfl (by kernel_rfl) (by kernel_rfl) (by kernel_rfl) (fun _ _ _ h => h) (Or.inl ⟨by kernel_rfl, ?hyo1⟩) hHeld ?resto1
              case hyo1 => intro w' hSw; (try dsimp only at hSw); go_simp; try with_reducible rfl
              simp only [Act.put]
              refine wpAnyF_take [12] (by kernel_rfl) (i := 1) (v := ?vo2) rfl (by kernel_rfl) (by kernel_rfl) (by kernel_rfl) (fun _ _ _ h => h) (Or.inl ⟨by kernel_rfl, ?hyo2⟩) hHeld ?resto2
              case hyo2 => intro w' hSw; (try dsimp only at hSw); go_simp; try with_reducible rfl
              simp only [Act.put]
              refine wpAnyF_take [12] (by kernel_rfl) (i := 2) (v := ?vo3) rfl (by kernel_rfl) (by kernel_rfl) (by kernel_rfl) (fun _ _ _ h => h) (Or.inl ⟨by kernel_rfl, ?hyo3⟩) hHeld ?resto3
              case hyo3 => intro w' hSw; (try dsimp only at hSw); go_simp; try with_reducible rfl
              simp only [Act.put]
              refine wpAnyF_take [12] (by kernel_rfl) (i := 3) (v := ?vo4) rfl (by kernel_rfl) (by kernel_rfl) (by kernel_rfl) (fun _ _ _ h => h) (Or.inl ⟨by kernel_rfl, ?hyo4⟩) hHeld ?resto4
              case hyo4 => intro w' hSw; (try dsimp only at hSw); go_simp; try with_reducible rfl
              simp only [Act.put]
              refine wpAnyF_take [12] (by kernel_rfl) (i := 4) (v := ?vo5) rfl (by kernel_rfl) (by kernel_rfl) (by kernel_rfl) (fun _ _ _ h => h) (Or.inl ⟨by kernel_rfl, ?hyo5⟩) hHeld ?resto5
              case hyo5 => intro w' hSw; (try dsimp only at hSw); go_simp; try with_reducible rfl
              simp only [Act.put]
              refine wpAnyF_take [12] (by kernel_rfl) (i := 5) (v := ?vo6) rfl (by kernel_rfl) (by kernel_rfl) (by kernel_rfl) (fun _ _ _ h => h) (Or.inl ⟨by kernel_rfl, ?hyo6⟩) hHeld ?resto6
              case hyo6 => intro w' hSw; (try dsimp only at hSw); go_simp; try with_reducible rfl
              simp only [Act.put]
              refine wpAnyF_take [12] (by kernel_rfl) (i := 6) (v := ?vo7) rfl (by kernel_rfl) (by kernel_rfl) (by kernel_rfl) (fun _ _ _ h => h) (Or.inl ⟨by kernel_rfl, ?hyo7⟩) hHeld ?resto7
              case hyo7 => intro w' hSw; (try dsimp only at hSw); go_simp; try with_reducible rfl
              simp only [Act.put]
              refine wpAnyF_ready (rs := [7]) (by kernel_rfl) (by simp) ?_
              refine AllReadyF.cons rfl (fun K hK => ?_) AllReadyF.nil
              go_simp
              refine HFn.out.mono ?_
              rintro e w8 ⟨rfl, hB8⟩
              dsimp only
              have HB8' := hide_ hB8
              clear hB8
              refine hK.out _ _ (HSS.out _ (below_to ((Below.refl wq.heap.size wq).drew) HB8'.out)) (fun hHeld => ?_)
              clear hK K
              refine wpAnyF_take [12] (by kernel_rfl) (i := 8) (v := ?vo8) rfl (by kernel_rfl) (by kernel_rfl) (by kernel_rfl) (fun _ _ _ h => h) (Or.inl ⟨by kernel_rfl, ?hyo8⟩) hHeld ?resto8
              case hyo8 => intro w' hSw; (try dsimp only at hSw); go_simp; try with_reducible rfl
              simp only [Act.put]
              refine wpAnyF_take [12] (by kernel_rfl) (i := 9) (v := ?vo9) rfl (by kernel_rfl) (by kernel_rfl) (by kernel_rfl) (fun _ _ _ h => h) (Or.inl ⟨by kernel_rfl, ?hyo9⟩) hHeld ?resto9
              case hyo9 => intro w' hSw; (try dsimp only at hSw); go_simp; try with_reducible rfl
              simp only [Act.put]
              refine wpAnyF_take [12] (by kernel_rfl) (i := 10) (v := ?vo10) rfl (by kernel_rfl) (by kernel_rfl) (by kernel_rfl) (fun _ _ _ h => h) (Or.inl ⟨by kernel_rfl, ?hyo10⟩) hHeld ?resto10
              case hyo10 => intro w' hSw; (try dsimp only at hSw); go_simp; try with_reducible rfl
              simp only [Act.put]
              refine wpAnyF_take [12] (by kernel_rfl) (i := 11) (v := ?vo11) rfl (by kernel_rfl) (by kernel_rfl) (by kernel_rfl) (fun _ _ _ h => h) (Or.inl ⟨by kernel_rfl, ?hyo11⟩) hHeld ?resto11
              case hyo11 => intro w' hSw; (try dsimp only at hSw); go_simp; try with_reducible rfl
              simp only [Act.put]
              refine wpAnyF_ready (rs := [12]) (by kernel_rfl) (by simp) ?_
              refine AllReadyF.last rfl (fun K hK => ?_)
              go_simp
              refine hK.out _ _ ?_
              clear hK K
              refine wpAnyF_done (by kernel_rfl) ?_ _
              have HB8 := hide_ (below_to ((Below.refl wq.heap.size wq).drew) HB8'.out)
              have HM8 := hide_ (HMq.out.later HB8.out)
              have x0 := HM8.out.kx.cell 0; have x1 := HM8.out.kx.cell 1; have s0 := HM8.out.ks.cell 0
              simp at x0 x1 s0
              rw [Hn.out] at s0
              have r0 := (HB8.out.cell (p := ⟨br, orr + j * 2, none⟩) hbr).trans Hr0.out
              have r1 := (HB8.out.cell (p := ⟨br, orr + j * 2 + 1, none⟩) hbr).trans Hr1.out
              have d0 := (HB8.out.cell (p := ⟨bd, od + j * 3, none⟩) hbd).trans Hd0.out
              have HU8 := hide_ (HU.out.later HB8.out)
              clear HU Hr0 Hr1 Hd0 HSS HMq HFn
              go_upto_region 25 with fail
              go_quiet (fail)
              have x1' : ∀ nq, (w8.drewN nq).cell? ⟨w4.heap.size, 1, none⟩ = some (.slice (some ⟨br, orr, none⟩) R.length q) := fun _ => x1
              have r1' : ∀ nq, (w8.drewN nq).cell? ⟨br, orr + j * 2 + 1, none⟩ = some (.int .i64 (t : Int)) := fun _ => r1
              have u1' : ∀ nq, (w8.drewN nq).cell? ⟨w6.heap.size, t, none⟩ = some (.bool (decide (t ∈ S))) := fun _ => (HU8.out.cell t).trans (bits_at _ _ t ht2)
              have u2' : ∀ nq, (w8.drewN nq).frozen? ⟨w6.heap.size, t, none⟩ = false := fun _ => HU8.out.frozen t
              have ht2' : (t : Int) < (T.length : Int) := by omega
              have HU9 : Hid (∀ nq, Blk ((w8.drewN nq).setCell ⟨w6.heap.size, t, none⟩ (.bool true)) w6.heap.size 4 (bits T.length (S ++ [t]))) := hide_ (fun nq => by rw [← bits_set _ _ _ ht2]; exact (HU8.out.drewN nq).set t _)
              have HB9 : Hid (∀ nq, Below w6.heap.size w6 ((w8.drewN nq).setCell ⟨w6.heap.size, t, none⟩ (.bool true))) := hide_ (fun nq => by
                have h1 := below_drewN (HBw.out.trans (HB8.out.mono HBw.out.size)) nq
                exact h1.trans (((Upd.refl (fun k => k = w6.heap.size) (w8.drewN nq)).set _ _ (.inl rfl)).below _ h1.size (fun k e => by omega)))
              clear x0 x1 s0 r0 r1 d0 HU8 HB8 HB8' HM8
              go_wp2_with fail
              clear x1' r1' u1' u2'
              go_roundw
              case rel => exact ⟨j + 1, S ++ [t], by omega, by go_num, HR1, hide_ (HU9.out _), hide_ (HB9.out _)⟩
              case measure => simp [intOf]; omega
            · obtain rfl : j = R.length := by omega
              have hlj' : ¬ (R.length : Int) < (R.length : Int) := by omega
              go_wp2_with fail
              generalize wq = w9 at *
              clear x0 x1 s0 HMq hlj hlj' hj
              go_loopw [13] (fun x13 wr => ∃ (l : Nat) (S' : List Nat), l ≤ T.length ∧ x13 = .int .i64 (l : Int) ∧ Hid (mkRt R R.length S') ∧ Hid (mkTy T l S') ∧ Hid (Blk wr w6.heap.size 4 (bits T.length S')) ∧ Hid (Below w6.heap.size w6 wr)) (fun x13 _ => T.length - (intOf x13).toNat)
              case atStart => exact ⟨0, S, Nat.zero_le _, rfl, HmR, hide_ (fun t ht => by simp at ht), HU, HBw⟩
              case round =>
                clear HmR HU HBw
                obtain ⟨l, S1, hl, rfl, HmR, HmT, HU, HBw⟩ := hrel
                generalize wr = wq at *
                have HMq := hide_ (HM6.out.later HBw.out)
                have x0 := HMq.out.kx.cell 0
                simp at x0
                by_cases hll : l < T.length
                · have hll' : (l : Int) < (T.length : Int) := by omega
                  obtain ⟨bt, ot, rfl, hbt, hct⟩ := HM6.out.t.open (by omega)
                  have ht : T[l]? = some (T[l]'hll) := List.getElem?_eq_getElem hll
                  obtain ⟨va, vc, h1, hvl, hvn, hP⟩ := hct l _ ht
                  have hok := HRt.out.ok l hll
                  have e9 : T.getD l ty0 = T[l]'hll := by simp [List.getD, hll]
                  rw [e9] at hok
                  have Ht := hide_ ht
                  generalize T[l]'hll = t at *
                  have p0 : wq.cell? ⟨bt, ot + l * 4, none⟩ = some (.int .i64 t.k) := (HBw.out.cell (p := ⟨bt, ot + l * 4, none⟩) hbt).trans (h1 0 (by decide))
                  have p1 : wq.cell? ⟨bt, ot + l * 4 + 1, none⟩ = some (.int .i64 t.n) := (HBw.out.cell (p := ⟨bt, ot + l * 4 + 1, none⟩) hbt).trans (h1 1 (by decide))
                  have p2 : wq.cell? ⟨bt, ot + l * 4 + 2, none⟩ = some (.int .i64 t.e) := (HBw.out.cell (p := ⟨bt, ot + l * 4 + 2, none⟩) hbt).trans (h1 2 (by decide))
                  have p3 : wq.cell? ⟨bt, ot + l * 4 + 3, none⟩ = some (.slice va t.ps.length vc) := (HBw.out.cell (p := ⟨bt, ot + l * 4 + 3, none⟩) hbt).trans (h1 3 (by decide))
                  have hpl := tyOk_len hok
                  have Hok := hide_ hok
                  obtain ⟨wz, hwz⟩ : ∃ wx, wx = wq.alloc (.cells #[.int .i64 t.k, .int .i64 t.n, .int .i64 t.e, .slice va t.ps.length vc] 50) := ⟨_, rfl⟩
                  have hbz : Below wq.heap.size wq wz := by rw [hwz]; exact below1 wq _
                  have kz : Blk wz wq.heap.size 50 [.int .i64 t.k, .int .i64 t.n, .int .i64 t.e, .slice va t.ps.length vc] := by rw [hwz]; exact Blk.newA wq _ _
                  have HKz := hide_ kz
                  have HUz := hide_ (HU.out.later hbz)
                  have HPz := hide_ hP
                  have HBz := hide_ (HBw.out.trans (hbz.mono HBw.out.size))
                  have hzl : w6.heap.size < wq.heap.size := HU.out.lt
                  have HMz := hide_ (HMq.out.later hbz)
                  have HZl := hide_ hzl
                  clear h1 hct e9 hok ht hP kz hbz HU HBw HMq
                  go_upto_region 32 with fail
                  rw [← hwz]
                  clear hwz p0 p1 p2 p3 x0
                  have k0 := HKz.out.cell 0
                  simp at k0
                  go_cut [172] from 159 to 172 (fun c wc => ∃ d, c = .bool d ∧ Hid (d = hasE t.k) ∧ wz = wc)
                  case first =>
                    by_cases h4 : t.k = 4
                    · have h4d : decide (t.k = 4) = true := decide_eq_true h4
                      have Hh : Hid (true = hasE t.k) := hide_ (by unfold hasE; exact (decide_eq_true (.inl h4)).symm)
                      go_wp2_with fail
                      go_meet
                      case rel => exact ⟨true, rfl, Hh, rfl⟩
                    have h4d : decide (t.k = 4) = false := decide_eq_false h4
                    by_cases h5 : t.k = 5
                    · have h5d : decide (t.k = 5) = true := decide_eq_true h5
                      have Hh : Hid (true = hasE t.k) := hide_ (by unfold hasE; exact (decide_eq_true (.inr (.inl h5))).symm)
                      go_wp2_with fail
                      go_meet
                      case rel => exact ⟨true, rfl, Hh, rfl⟩
                    have h5d : decide (t.k = 5) = false := decide_eq_false h5
                    by_cases h6 : t.k = 6
                    · have h6d : decide (t.k = 6) = true := decide_eq_true h6
                      have Hh : Hid (true = hasE t.k) := hide_ (by unfold hasE; exact (decide_eq_true (.inr (.inr h6))).symm)
                      go_wp2_with fail
                      go_meet
                      case rel => exact ⟨true, rfl, Hh, rfl⟩
                    have h6d : decide (t.k = 6) = false := decide_eq_false h6
                    have Hh : Hid (false = hasE t.k) := hide_ (by unfold hasE; exact (decide_eq_false (fun h => by rcases h with h | h | h; exact h4 h; exact h5 h; exact h6 h)).symm)
                    go_wp2_with fail
                    go_meet
                    case rel => exact ⟨false, by simp [h4, h5, h6], Hh, rfl⟩
                  case rest =>
                  obtain ⟨dd, rfl, HhE, rfl⟩ := hcut
                  clear k0
                  have hE0 : dd = true → 0 ≤ t.e ∧ t.e < T.length := fun h => by
                    have h1 := tyOk_elem Hok.out (by rw [← HhE.out]; exact h)
                    omega
                  have k2 := HKz.out.cell 2; have k3 := HKz.out.cell 3
                  simp at k2 k3
                  go_upto_if 172 with fail
                  go_cut [2] from 173 to 176 (fun x2 wc => ∃ (S2 : List Nat) (wy : World), wy = wc ∧ x2 = u2 ∧ Hid (InT w6 wy wq.heap.size t va vc T R l S2 0))
                  case first =>
                    cases dd with
                    | false =>
                      have HK : Hid (InT w6 wz wq.heap.size t va vc T R l S1 0) := hide_ ⟨HKz.out, HUz.out, HBz.out, HmR.out, HmT.out, fun h => (by rw [← HhE.out] at h; cases h), fun q hq => by simp at hq⟩
                      clear hE0
                      go_wp2_with fail
                      go_meet
                      case rel => exact ⟨S1, _, rfl, rfl, HK⟩
                    | true =>
                      obtain ⟨e, he⟩ : ∃ e : Nat, t.e = (e : Int) := ⟨t.e.toNat, by have := hE0 rfl; omega⟩
                      have hel : e < T.length := by have := hE0 rfl; omega
                      have hel' : (e : Int) < (T.length : Int) := by omega
                      have c0 := (HUz.out.cell e).trans (bits_at _ _ e hel)
                      have c1 := HUz.out.frozen e
                      have HK : Hid (InT w6 (wz.setCell ⟨w6.heap.size, e, none⟩ (.bool true)) wq.heap.size t va vc T R l (S1 ++ [e]) 0) := hide_ ((InT.mark (k := 0) HKz.out HUz.out HBz.out hel (by omega) HmR.out HmT.out (fun q hq => by simp at hq)) (fun _ => by rw [he]; simp))
                      rw [he] at k2
                      clear hE0 he
                      go_wp2_with fail
                      go_meet
                      case rel => exact ⟨S1 ++ [e], _, rfl, rfl, HK⟩
                  case rest =>
                  obtain ⟨S2, wy, rfl, rfl, HK⟩ := hcut
                  clear k2 k3 HKz HUz HBz HMz HmR HmT hE0 HhE hzl
                  have hzl : w6.heap.size < wq.heap.size := HZl.out
                  go_wp2_with fail
                  go_loopw [15] (fun x15 wr => ∃ (k : Nat) (S3 : List Nat), k ≤ t.ps.length ∧ x15 = .int .i64 (k : Int) ∧ Hid (InT w6 wr wq.heap.size t va vc T R l S3 k)) (fun x15 _ => t.ps.length - (intOf x15).toNat)
                  case atStart => exact ⟨0, S2, Nat.zero_le _, rfl, HK⟩
                  case round =>
                    clear HK
                    obtain ⟨k, S3, hk, rfl, HK⟩ := hrel
                    generalize wr = wv at *
                    have k3 := HK.out.bx.cell 3
                    simp at k3
                    by_cases hk2 : k < t.ps.length
                    · have hk3 : (k : Int) < (t.ps.length : Int) := by omega
                      obtain ⟨bp, op, rfl, hbp, hcp⟩ := HPz.out.open (by omega)
                      have hq : t.ps[k]? = some (t.ps[k]'hk2) := List.getElem?_eq_getElem hk2
                      have h1 := (HK.out.bel.cell (p := ⟨bp, op + k * 3 + 2, none⟩) hbp).trans (hcp k _ hq 2 (by decide))
                      have hqb := tyOk_part Hok.out hq
                      have Hq := hide_ hq
                      generalize t.ps[k]'hk2 = pq at *
                      obtain ⟨e, he⟩ : ∃ e : Nat, pq.ty = (e : Int) := ⟨pq.ty.toNat, by omega⟩
                      have hel : e < T.length := by omega
                      have hel' : (e : Int) < (T.length : Int) := by omega
                      have q2 : wv.cell? ⟨bp, op + k * 3 + 2, none⟩ = some (.int .i64 (e : Int)) := by rw [← he]; exact h1
                      have c0 := (HK.out.us.cell e).trans (bits_at _ _ e hel)
                      have c1 := HK.out.us.frozen e
                      have HK2 := hide_ (HK.out.next hel (by omega) Hq.out (by rw [he]; rfl))
                      clear h1 hcp hq hqb he
                      go_wp2_with fail
                      clear q2 c0 c1
                      go_roundw
                      case rel => exact ⟨k + 1, S3 ++ [e], by omega, by go_num, HK2⟩
                      case measure => simp [intOf]; omega
                    · obtain rfl : k = t.ps.length := by omega
                      have hk3 : ¬ (t.ps.length : Int) < (t.ps.length : Int) := by omega
                      have HmT2 := hide_ (HK.out.done Ht.out)
                      go_wp2_with fail
                      go_roundw
                      case rel => exact ⟨l + 1, S3, by omega, by go_num, hide_ HK.out.rt, HmT2, hide_ HK.out.us, hide_ HK.out.bel⟩
                      case measure => simp [intOf]; omega
                · obtain rfl : l = T.length := by omega
                  have hll' : ¬ (T.length : Int) < (T.length : Int) := by omega
                  have HAll : Hid (∀ j : Nat, j < T.length → j ∈ S1) := hide_ (fun j hj => HRt.out.all HmR.out HmT.out hj)
                  go_wp2_with fail
                  clear x0 HMq
                  generalize wq = w9 at *
                  go_loopw [16] (fun x16 wr => ∃ l : Nat, l ≤ T.length ∧ x16 = .int .i64 (l : Int) ∧ w9 = wr) (fun x16 _ => T.length - (intOf x16).toNat)
                  case atStart => exact ⟨0, Nat.zero_le _, rfl, rfl⟩
                  case round =>
                    obtain ⟨l, hl, rfl, rfl⟩ := hrel
                    by_cases hl2 : l < T.length
                    · have hl3 : (l : Int) < (T.length : Int) := by omega
                      have c0 : w9.cell? ⟨w6.heap.size, l, none⟩ = some (.bool true) := by
                        rw [HU.out.cell l, bits_at _ _ l hl2, decide_eq_true (HAll.out l hl2)]
                      go_wp2_with fail
                      go_roundw
                      case rel => exact ⟨l + 1, by omega, by go_num, (by first | rfl | trivial)⟩
                      case measure => simp [intOf]; omega
                    · obtain rfl : l = T.length := by omega
                      have hl3 : ¬ (T.length : Int) < (T.length : Int) := by omega
                      go_wp2
                      go_ret
                      exact ⟨rfl, HB6.out.trans (HBw.out.mono HB6.out.size)⟩
    · obtain ⟨rfl, rfl⟩ := HBl.out.err h1
      simp only [List.length_nil] at x0 x1
      go_wp2
      go_ret
      exact ⟨rfl, HB5.out⟩
  · go_wp2
    go_ret
    exact ⟨rfl, HB3.out⟩
end Go.Proofs.Ytiemobmbiomocaa
