import Derived.Test.YtlbgdgobhiokpaaDoorPart03
import Derived.BigRegion
import Derived.Deep.RegionLaw

/- add, end, enter. -/
namespace Go.Proofs.YtlbgdgobhiokpaaDoor
open Go.RowKit
set_option linter.unusedVariables false

def incK (N : List Nd) (o : Nat) : List Nd := N.set o ((N.getD o nil0).1, (N.getD o nil0).2.1, (N.getD o nil0).2.2 + 1)
def addN (N : List Nd) (O : List Nat) (k n : Int) : List Nd := (match O with | [] => N | o :: _ => incK N o) ++ [(k, n, 0)]
/-- Without the innermost options. -/
def popO (N : List Nd) : List Nat → List Nat
  | [] => []
  | o :: O => if (N.getD o nil0).1 = 5 then popO N O else o :: O
section
variable {B b : Nat} {w w' w1 : World} {s : ByteArray} {p o : Nat} {vn vo v : Value} {N : List Nd} {O : List Nat} {en : Bool}
theorem Rdr.inc (h : Rdr B w b s p vn vo N O en) (ho : o < N.length) {gn cn : Nat} (hv : vn = .slice (some ⟨gn, 0, none⟩) N.length cn) :
    Rdr B (w.setCell ⟨gn, o * 3 + 2, none⟩ (.int .i64 ((N.getD o nil0).2.2 + 1))) b s p vn vo (incK N o) O en ∧ KeptR B w (w.setCell ⟨gn, o * 3 + 2, none⟩ (.int .i64 ((N.getD o nil0).2.2 + 1))) := by
  obtain ⟨g, cap, ys, e, hb, hn, hm, hl, ht, hK⟩ := ownS_blk h.nod (by omega)
  rw [hv] at e
  have e1 : gn = g ∧ cn = cap := by simpa using e
  obtain ⟨rfl, rfl⟩ := e1
  subst hv
  refine ⟨⟨h.blk.other _ _ fun e => ?_, h.hb, ?_, own_far h.opn hK (by decide)⟩, kept_cell hK hb (.inr (.inl rfl))⟩
  · have e2 : b = gn := e
    subst e2
    exact absurd (blk_type h.blk hK) (by decide)
  · have h2 := ownS_of_blk (n := N.length) (c := 3) (hK.set (o * 3 + 2) (.int .i64 ((N.getD o nil0).2.2 + 1))) hb (by simpa using hl) hn hm
    rw [List.take_set, ht, cellsN_set N o _ ho] at h2
    have e3 : (incK N o).length = N.length := by simp [incK]
    rw [e3]
    exact h2
theorem Rdr.push (h : Rdr B w b s p vn vo N O en) (k n : Int) (hN : N.length ≤ 2000000) :
    ∃ g cap w', (Builtin.append_ #[22, 22] 22 #[vn, .slice (some ⟨w.heap.size, 0, none⟩) 1 1]).run Tryd.prog (w.alloc (.cells #[.int .i64 k, .int .u64 n, .int .i64 0] 37)) = .ok (.slice (some ⟨g, 0, none⟩) (N.length + 1) cap) w' ∧ w'.cell? ⟨b, 2, none⟩ = some vn ∧ w'.frozen? ⟨b, 2, none⟩ = false ∧ Rdr B (w'.setCell ⟨b, 2, none⟩ (.slice (some ⟨g, 0, none⟩) (N.length + 1) cap)) b s p (.slice (some ⟨g, 0, none⟩) (N.length + 1) cap) vo (N ++ [(k, n, 0)]) O en ∧ KeptR B w (w'.setCell ⟨b, 2, none⟩ (.slice (some ⟨g, 0, none⟩) (N.length + 1) cap)) := by
  have hB := h.base
  obtain ⟨g, cap, w', r1, o1, u1, l1⟩ := run_pushS (P := Tryd.prog) (t := 22) (e := 37) (z := .agg #[.int .i64 0, .int .u64 0, .int .i64 0]) (bytes := 24) Tryd.underlying22 (by kernel_rfl) rfl (by decide) w 22 h.nod (ndc (k, n, 0)) rfl (by intro u hu; simp [ndc] at hu; rcases hu with rfl | rfl | rfl <;> rfl) (by unfold maxLen; omega) (by omega) hB
  have hb1 : Blk w' b 92 [.string s, .int .i64 p, vn, vo, .bool en] := h.blk.upd u1 fun hk => by
    obtain ⟨ys, hy⟩ := ownS_type h.nod hk
    exact absurd (blk_type h.blk hy) (by decide)
  have ho1 : w'.ownsRow B 3 1 vo O.length (cellsL .i64 (oL O)) := ownS_upd h.opn u1 fun q hq hk => by
    obtain ⟨ys, hy⟩ := ownS_type h.nod hk
    obtain ⟨zs, hz⟩ := ownS_type h.opn hq
    exact absurd (blk_type hy hz) (by decide)
  have k1 : KeptR B w w' := ⟨u1.below B hB (fun k hk => (h.nod.lt k hk).1), fun q t xs h1 h2 h3 hb => hb.upd u1 fun hk => by
    obtain ⟨ys, hy⟩ := ownS_type h.nod hk
    exact h2 (blk_type hb hy)⟩
  refine ⟨g, cap, w', r1, hb1.cell 2, hb1.frozen 2, ⟨hb1.set 2 _, h.hb, ?_, own_far ho1 hb1 (by decide)⟩, k1.trans (kept_cell hb1 h.hb (.inl rfl))⟩
  have h2 := own_far (i := 2) (u := .slice (some ⟨g, 0, none⟩) (N.length + 1) cap) o1 hb1 (by decide)
  rw [List.length_append, cellsN_append]
  exact h2
theorem Rdr.pusho (h : Rdr B w b s p vn vo N O en) (o : Nat) (hO : O.length ≤ 2000000) :
    ∃ g cap w', (Builtin.append_ #[43, 43] 43 #[vo, .slice (some ⟨w.heap.size, 0, none⟩) 1 1]).run Tryd.prog (w.alloc (.cells #[.int .i64 (o : Int)] 3)) = .ok (.slice (some ⟨g, 0, none⟩) (O.length + 1) cap) w' ∧ w'.cell? ⟨b, 3, none⟩ = some vo ∧ w'.cell? ⟨b, 2, none⟩ = some vn ∧ w'.frozen? ⟨b, 3, none⟩ = false ∧ Rdr B (w'.setCell ⟨b, 3, none⟩ (.slice (some ⟨g, 0, none⟩) (O.length + 1) cap)) b s p vn (.slice (some ⟨g, 0, none⟩) (O.length + 1) cap) N (o :: O) en ∧ KeptR B w (w'.setCell ⟨b, 3, none⟩ (.slice (some ⟨g, 0, none⟩) (O.length + 1) cap)) := by
  have hB := h.base
  obtain ⟨g, cap, w', r1, o1, u1, l1⟩ := run_push E43 w 43 B vo O.length (oL O) h.opn (o : Int) (by unfold maxLen; omega) (by omega) hB
  have hb1 : Blk w' b 92 [.string s, .int .i64 p, vn, vo, .bool en] := h.blk.upd u1 fun hk => by
    obtain ⟨ys, hy⟩ := ownS_type h.opn hk
    exact absurd (blk_type h.blk hy) (by decide)
  have ho1 : w'.ownsRow B 37 3 vn N.length (cellsN N) := ownS_upd h.nod u1 fun q hq hk => by
    obtain ⟨ys, hy⟩ := ownS_type h.opn hk
    obtain ⟨zs, hz⟩ := ownS_type h.nod hq
    exact absurd (blk_type hy hz) (by decide)
  have k1 : KeptR B w w' := ⟨u1.below B hB (fun k hk => (h.opn.lt k hk).1), fun q t xs h1 h2 h3 hb => hb.upd u1 fun hk => by
    obtain ⟨ys, hy⟩ := ownS_type h.opn hk
    exact h3 (blk_type hb hy)⟩
  refine ⟨g, cap, w', r1, hb1.cell 3, hb1.cell 2, hb1.frozen 3, ⟨hb1.set 3 _, h.hb, own_far ho1 hb1 (by decide), ?_⟩, k1.trans (kept_cell hb1 h.hb (.inl rfl))⟩
  have h2 := own_far (i := 3) (u := .slice (some ⟨g, 0, none⟩) (O.length + 1) cap) o1 hb1 (by decide)
  rw [oL_cons]
  exact h2
theorem Rdr.popo (h : Rdr B w b s p vn vo N (o :: O) en) : ∃ go co, vo = .slice (some ⟨go, 0, none⟩) (O.length + 1) co ∧ O.length + 1 ≤ co ∧ co ≤ maxLen ∧ Rdr B (w.setCell ⟨b, 3, none⟩ (.slice (some ⟨go, 0, none⟩) O.length co)) b s p vn (.slice (some ⟨go, 0, none⟩) O.length co) N O en := by
  obtain ⟨go, co, rfl, bo, h1, h2, -, -, h3⟩ := h.top
  exact ⟨go, co, rfl, h1, h2, h.blk.set 3 _, h.hb, own_far h.nod h.blk (by decide), own_far h3 h.blk (by decide)⟩
theorem Rdr.vo_nil (h : Rdr B w b s p vn vo N [] en) : ∃ a c, vo = .slice a 0 c := by
  rcases h.opn.2 with ⟨e, _⟩ | ⟨g, cap, cur, e, _⟩
  · exact ⟨_, _, e⟩
  · exact ⟨_, _, e⟩
end
end Go.Proofs.YtlbgdgobhiokpaaDoor

/- add, end, enter. -/
namespace Go.Proofs.YtlbgdgobhiokpaaDoor
open Go.RowKit
set_option linter.unusedVariables false

set_option maxRecDepth 100000 in
set_option maxHeartbeats 8000000 in
theorem add_any (B b p : Nat) (k n : Int) (s : ByteArray) (vn vo : Value) (N : List Nd) (O : List Nat) (en : Bool) (w : World) (hR : Hid (Rdr B w b s p vn vo N O en)) (hO : ∀ o ∈ O, o < N.length) (hN : N.length ≤ 2000000) (hOl : O.length ≤ 2000000) (hc : ∀ o, 0 ≤ (N.getD o nil0).2.2 ∧ (N.getD o nil0).2.2 ≤ 2000000) :
    Calls Tryd.prog 82 #[.pointer (some ⟨b, 0, none⟩), .int .i64 k, .int .u64 n] w fun e w' => e = .returned (.tuple #[]) ∧ ∃ vn', Hid (Rdr B w' b s p vn' vo (addN N O k n) O en) ∧ Hid (KeptR B w w') := by
  have c2 := hR.out.c2; have c3 := hR.out.c3
  cases O with
  | nil =>
    obtain ⟨a, c, rfl⟩ := hR.out.vo_nil
    obtain ⟨g', cap', w', r1, k2, z2, hR', hK'⟩ := hR.out.push k n hN
    have R1 : Hid _ := r1
    have HR : Hid _ := hR'
    have HK : Hid _ := hK'
    clear r1 hR' hK'
    go_enter Tryd.func82, Tryd.ntmps82
    go_wp2_with (at_builtin; have _t := R1; refine wpList_append_run rfl (.tmp 38) (.tmp 42) 22 22 rfl rfl rfl R1.out ?_; clear R1)
    go_end0
    exact ⟨rfl, _, HR, HK⟩
  | cons o O =>
    obtain ⟨go, co, rfl, bo, ho1, ho2, k0, hgo, -⟩ := hR.out.top
    have hoN : o < N.length := hO o (by simp)
    obtain ⟨gn, cn, hvn, bn, hn1, hn2, hgn, n0, n1, n2, zn, -⟩ := hR.out.node hoN
    obtain ⟨hI, hKI⟩ := hR.out.inc hoN hvn
    have hlen : (incK N o).length = N.length := by simp [incK]
    obtain ⟨g', cap', w', r1, k2, z2, hR', hK'⟩ := Rdr.push (w := (w.setCell ⟨gn, o * 3 + 2, none⟩ (.int .i64 ((N.getD o nil0).2.2 + 1))).drew) hI.drew k n (by omega)
    have hcI3 := hI.c3
    have hcIo : (w.setCell ⟨gn, o * 3 + 2, none⟩ (.int .i64 ((N.getD o nil0).2.2 + 1))).cell? ⟨go, O.length, none⟩ = some (.int .i64 (o : Int)) := by
      obtain ⟨go', co', e1, -, -, -, k1, -⟩ := hI.top
      have e2 : go = go' ∧ co = co' := by simpa using e1
      obtain ⟨rfl, rfl⟩ := e2
      exact k1
    have cI : (w.setCell ⟨gn, o * 3 + 2, none⟩ (.int .i64 ((N.getD o nil0).2.2 + 1))).cell? ⟨b, 2, none⟩ = some vn := hI.c2
    subst hvn
    unfold maxLen at ho2 hn2
    have hsz : (w.setCell ⟨gn, o * 3 + 2, none⟩ (.int .i64 ((N.getD o nil0).2.2 + 1))).drew.heap.size = w.heap.size := World.size_setCell _ _ _
    rw [hsz, hlen] at r1
    have R1 : Hid ((Builtin.append_ #[22, 22] 22 #[.slice (some ⟨gn, 0, none⟩) N.length cn, .slice (some ⟨w.heap.size, 0, none⟩) 1 1]).run Tryd.prog ((w.setCell ⟨gn, o * 3 + 2, none⟩ (.int .i64 ((N.getD o nil0).2.2 + 1))).alloc (.cells #[.int .i64 k, .int .u64 n, .int .i64 0] 37)).drew = .ok (.slice (some ⟨g', 0, none⟩) (N.length + 1) cap') w') := r1
    rw [hlen] at hR' hK'
    have HR : Hid (Rdr B _ b s p _ _ (addN N (o :: O) k n) (o :: O) en) := hR'
    have HK : Hid (KeptR B w _) := hKI.drew.trans hK'
    have hcc := hc o
    generalize (N.getD o nil0).1 = xk at *
    generalize (N.getD o nil0).2.1 = xn at *
    generalize (N.getD o nil0).2.2 = xc at *
    clear r1 hR' hK' hI hKI hO hc hlen hsz
    have hoN' : (o : Int) < N.length := by omega
    have hOl2 : O.length ≤ 2000000 := by simp at hOl; omega
    have hw1 : IntKind.i64.wrap (O.length : Int) = O.length := i64w _ (by omega)
    have hw2 : IntKind.i64.wrap ((O.length : Int) + 1 - 1) = O.length := by rw [i64w _ (by omega)]; omega
    have hw3 : (O.length : Int) < O.length + 1 := by omega
    have hw4 : IntKind.i64.wrap (xc + 1) = xc + 1 := i64w _ (by omega)
    go_enter Tryd.func82, Tryd.ntmps82
    go_wp2_with fail
    go_region
    clear n0 n1 n2 zn k0 c2 c3 hw1 hw2 hw3 hw4 hcI3 hcIo
    go_wp2_with (at_builtin; have _t := R1; refine wpList_append_run rfl (.tmp 38) (.tmp 42) 22 22 rfl rfl rfl R1.out ?_; clear R1)
    go_end0
    exact ⟨rfl, _, HR, HK⟩
end Go.Proofs.YtlbgdgobhiokpaaDoor

/- enter, end. -/
namespace Go.Proofs.YtlbgdgobhiokpaaDoor
open Go.RowKit
set_option linter.unusedVariables false

set_option maxRecDepth 100000 in
set_option maxHeartbeats 8000000 in
theorem enter_any (B b p : Nat) (k n : Int) (s : ByteArray) (vn vo : Value) (N : List Nd) (O : List Nat) (en : Bool) (w : World) (hR : Hid (Rdr B w b s p vn vo N O en)) (hO : ∀ o ∈ O, o < N.length) (hN : N.length ≤ 1500000) (hOl : O.length ≤ 1500000) (hc : ∀ o, 0 ≤ (N.getD o nil0).2.2 ∧ (N.getD o nil0).2.2 ≤ 2000000) :
    Calls Tryd.prog 73 #[.pointer (some ⟨b, 0, none⟩), .int .i64 k, .int .u64 n] w fun e w' => e = .returned (.tuple #[]) ∧ ∃ vn' vo', Hid (Rdr B w' b s p vn' vo' (addN N O k n) (N.length :: O) en) ∧ Hid (KeptR B w w') := by
  go_enter Tryd.func73, Tryd.ntmps73
  go_wp2_with fail
  refine (add_any B b p k n s vn vo N O en w hR hO (by omega) (by omega) hc).mono ?_; rintro e w1 ⟨rfl, vn1, HR1, HK1⟩
  have hlen : (addN N O k n).length = N.length + 1 := by cases O <;> simp [addN, incK]
  have hbl := HR1.out.blk.lt
  obtain ⟨g', cap', w', r1, k3, k2, z3, hR', hK'⟩ := Rdr.pusho (w := w1.drew) HR1.out.drew N.length (by omega)
  obtain ⟨gn, cn, hvn, -, hn1, hn2, -⟩ := Rdr.node (o := 0) HR1.out (by omega)
  rw [hlen] at hvn hn1
  subst hvn
  unfold maxLen at hn2
  have c2 := HR1.out.c2; have c3 := HR1.out.c3; have z1 := HR1.out.blk.frozen 3
  have R1 : Hid ((Builtin.append_ #[43, 43] 43 #[vo, .slice (some ⟨w1.heap.size, 0, none⟩) 1 1]).run Tryd.prog (w1.alloc (.cells #[.int .i64 (N.length : Int)] 3)).drew = .ok (.slice (some ⟨g', 0, none⟩) (O.length + 1) cap') w') := r1
  have HR2 : Hid _ := hR'
  have HK2 : Hid (KeptR B w _) := HK1.out.drew.trans hK'
  have hw1 : IntKind.i64.wrap (N.length : Int) = N.length := i64w _ (by omega)
  have hw2 : IntKind.i64.wrap ((N.length : Int) + 1 - 1) = N.length := by rw [i64w _ (by omega)]; omega
  have HSa : Hid (∀ ob, (w1.alloc ob).cell? ⟨b, 2, none⟩ = some (.slice (some ⟨gn, 0, none⟩) (N.length + 1) cn)) := fun ob => (cell_alloc w1 ob _ _ hbl).trans c2
  have k4 := HR2.out.c2
  clear r1 hR' hK' HR1 HK1 hR hO hc
  go_wp2_with fail
  have c3a : ∀ ob, (w1.alloc ob).cell? ⟨b, 3, none⟩ = some vo := fun ob => (cell_alloc w1 ob _ _ hbl).trans c3
  have c2a := HSa.out
  go_region_law (refine step_append_run rfl (.tmp 14) (.tmp 21) 43 43 rfl rfl rfl R1.out ?_)
  all_goals go_wp2
  all_goals go_end0
  all_goals exact ⟨rfl, _, _, HR2, HK2⟩
set_option maxRecDepth 100000 in
set_option maxHeartbeats 8000000 in
theorem end_any (B b p : Nat) (s : ByteArray) (vn vo : Value) (N : List Nd) (O : List Nat) (en : Bool) (w : World) (hR : Hid (Rdr B w b s p vn vo N O en)) (hO : ∀ o ∈ O, o < N.length) (hN : N.length ≤ 2000000) (hOl : O.length ≤ 2000000) :
    Calls Tryd.prog 61 #[.pointer (some ⟨b, 0, none⟩)] w fun e w' => e = .returned (.tuple #[]) ∧ ∃ vo', Hid (Rdr B w' b s p vn vo' N (popO N O) true) ∧ Hid (KeptR B w w') := by
  have c4 := hR.out.c4
  have z4 := hR.out.blk.frozen 4
  have HR0 : Hid (Rdr B (w.setCell ⟨b, 4, none⟩ (.bool true)) b s p vn vo N O true) := hR.out.seten true
  have HK0 : Hid (KeptR B w (w.setCell ⟨b, 4, none⟩ (.bool true))) := hR.out.keptb 4 _
  go_enter Tryd.func61, Tryd.ntmps61
  go_wp2_with fail
  go_loopw [] (fun wr => ∃ (vo' : Value) (O' : List Nat), (∀ o ∈ O', o < N.length) ∧ O'.length ≤ 2000000 ∧ Hid (popO N O' = popO N O) ∧ Hid (Rdr B wr b s p vn vo' N O' true) ∧ Hid (KeptR B w wr)) (fun wr => match wr.cell? ⟨b, 3, none⟩ with | some (.slice _ n _) => n | _ => 0)
  case atStart => exact ⟨vo, O, hO, hOl, rfl, HR0, HK0⟩
  case round =>
    clear HR0 HK0 c4 z4 hR hO hOl
    obtain ⟨vo, O', hO, hOl, HP, HR, HK⟩ := hrel
    have c2 := HR.out.c2; have c3 := HR.out.c3
    have z3 := HR.out.blk.frozen 3
    cases O' with
    | nil =>
      obtain ⟨a, c, rfl⟩ := HR.out.vo_nil
      go_wp2_with fail
      go_quiet (fail)
      go_wp2
      go_end0
      exact ⟨rfl, _, by rw [← HP.out]; exact HR.out.drewN _, HK.out.drewN _⟩
    | cons o O2 =>
      obtain ⟨go, co, hvo, -, ho1, ho2, k0, hgo, -⟩ := HR.out.top
      obtain ⟨go', co', hvo', -, -, HR2⟩ := HR.out.popo
      rw [hvo] at hvo'
      have e2 : go = go' ∧ co = co' := by simpa using hvo'
      obtain ⟨rfl, rfl⟩ := e2
      have hoN : o < N.length := hO o (by simp)
      obtain ⟨gn, cn, hvn, -, hn1, hn2, -, n0, -⟩ := HR.out.node hoN
      have HP1 : Hid ((if (N.getD o nil0).1 = 5 then popO N O2 else o :: O2) = popO N O) := HP.out
      have HR3 : Hid (∀ q, Rdr B ((wr.drewN q).setCell ⟨b, 3, none⟩ (.slice (some ⟨go, 0, none⟩) O2.length co)) b s p vn (.slice (some ⟨go, 0, none⟩) O2.length co) N O2 true) := fun q => by
        obtain ⟨go', co', hvo2, -, -, HR4⟩ := (HR.out.drewN q).popo
        rw [hvo] at hvo2
        have e2 : go = go' ∧ co = co' := by simpa using hvo2
        obtain ⟨rfl, rfl⟩ := e2
        exact HR4
      have hO2 : ∀ o ∈ O2, o < N.length := fun o ho => hO o (by simp [ho])
      subst hvo hvn
      generalize (N.getD o nil0).1 = xk at *
      unfold maxLen at ho2 hn2
      have hoN' : (o : Int) < N.length := by omega
      have hOl2 : O2.length ≤ 2000000 := by simp at hOl; omega
      have hw1 : IntKind.i64.wrap (O2.length : Int) = O2.length := i64w _ (by omega)
      have hw2 : IntKind.i64.wrap ((O2.length : Int) + 1 - 1) = O2.length := by rw [i64w _ (by omega)]; omega
      have hw3 : (O2.length : Int) < O2.length + 1 := by omega
      clear HR2 hvo' HP hO
      by_cases hx : xk = 5
      · subst hx
        rw [if_pos rfl] at HP1
        go_wp2_with fail
        go_quiet (fail)
        go_wp2_with fail
        go_region
        go_wp2
        go_roundw
        case rel => exact ⟨_, O2, hO2, hOl2, HP1, HR3.out _, (HK.out.drewN _).trans ((HR.out.drewN _).keptb 3 _)⟩
        case measure => rw [(HR3.out _).c3, c3]; simp
      · have hb5 : (xk == 5) = false := by simpa using hx
        rw [if_neg hx] at HP1
        go_wp2_with fail
        go_quiet (fail)
        go_wp2
        go_end0
        exact ⟨rfl, _, HP1.out ▸ HR.out.drewN _, HK.out.drewN _⟩
end Go.Proofs.YtlbgdgobhiokpaaDoor

/- leaf, begin. -/
namespace Go.Proofs.YtlbgdgobhiokpaaDoor
open Go.RowKit
set_option linter.unusedVariables false

/-- What a reader has: its place, its nodes, the open ones (the innermost first), whether a value has just ended. -/
structure PS where
  p : Nat
  N : List Nd
  O : List Nat
  en : Bool
structure PSok (len : Nat) (st : PS) : Prop where
  pl : st.p ≤ len
  np : st.N.length ≤ st.p
  on : ∀ o ∈ st.O, o < st.N.length
  ol : st.O.length ≤ st.N.length
  kd : ∀ o, 0 ≤ (st.N.getD o nil0).2.2 ∧ (st.N.getD o nil0).2.2 ≤ st.N.length
theorem popO_sub (N : List Nd) : ∀ (O : List Nat), (∀ o ∈ popO N O, o ∈ O) ∧ (popO N O).length ≤ O.length
  | [] => ⟨by simp [popO], Nat.le_refl _⟩
  | o :: O => by
    have ih := popO_sub N O
    unfold popO
    split
    · exact ⟨fun x hx => by simp [ih.1 x hx], by simp; omega⟩
    · exact ⟨fun x hx => hx, Nat.le_refl _⟩
theorem addN_len (N : List Nd) (O : List Nat) (k n : Int) : (addN N O k n).length = N.length + 1 := by cases O <;> simp [addN, incK]
theorem getD_set (N : List Nd) (i o : Nat) (x : Nd) (hi : i < N.length) : (N.set i x).getD o nil0 = if o = i then x else N.getD o nil0 := by
  by_cases h : o = i
  · subst h; simp [List.getD, hi]
  · simp [List.getD, Ne.symm h, h]
theorem getD_snoc (N : List Nd) (o : Nat) (x : Nd) : (N ++ [x]).getD o nil0 = if o = N.length then x else N.getD o nil0 := by
  by_cases h : o = N.length
  · subst h; simp [List.getD]
  · rw [if_neg h]
    rcases Nat.lt_or_ge o N.length with h1 | h1
    · simp [List.getD, List.getElem?_append_left h1]
    · simp only [List.getD]
      rw [List.getElem?_eq_none (by simp; omega), List.getElem?_eq_none h1]
theorem addN_getD (N : List Nd) (O : List Nat) (k n : Int) (o : Nat) (hO : ∀ x ∈ O, x < N.length) : (addN N O k n).getD o nil0 = if o = N.length then (k, n, 0) else if O.head? = some o then ((N.getD o nil0).1, (N.getD o nil0).2.1, (N.getD o nil0).2.2 + 1) else N.getD o nil0 := by
  cases O with
  | nil => rw [addN, getD_snoc]; simp
  | cons x O =>
    have hx := hO x (by simp)
    rw [addN, getD_snoc, incK, List.length_set, getD_set _ _ _ _ hx]
    by_cases h : o = N.length
    · rw [if_pos h, if_pos h]
    · rw [if_neg h, if_neg h]
      by_cases h2 : o = x
      · subst h2; simp
      · rw [if_neg h2, if_neg (by simpa using Ne.symm h2)]
theorem PSok.add {len : Nat} {p p' : Nat} {N : List Nd} {O O' : List Nat} {en en' : Bool} (h : PSok len ⟨p, N, O, en⟩) (k n : Int) (hp : p < p') (hl : p' ≤ len) (hO : ∀ o ∈ O', o = N.length ∨ o ∈ O) (hO2 : O'.length ≤ O.length + 1) : PSok len ⟨p', addN N O k n, O', en'⟩ := by
  have hn : N.length ≤ p := h.np
  have hol : O.length ≤ N.length := h.ol
  refine ⟨hl, by simp only [addN_len]; omega, fun o ho => ?_, by simp only [addN_len]; omega, fun o => ?_⟩
  · simp only [addN_len]
    rcases hO o ho with rfl | h1
    · omega
    · have : o < N.length := h.on o h1
      omega
  · have hk : 0 ≤ (N.getD o nil0).2.2 ∧ (N.getD o nil0).2.2 ≤ N.length := h.kd o
    simp only [addN_len]
    rw [addN_getD _ _ _ _ _ h.on]
    split
    · show (0 : Int) ≤ 0 ∧ (0 : Int) ≤ ((N.length + 1 : Nat) : Int)
      omega
    · split
      · show 0 ≤ (N.getD o nil0).2.2 + 1 ∧ (N.getD o nil0).2.2 + 1 ≤ ((N.length + 1 : Nat) : Int)
        omega
      · show 0 ≤ (N.getD o nil0).2.2 ∧ (N.getD o nil0).2.2 ≤ ((N.length + 1 : Nat) : Int)
        omega
def W4 : ByteArray := ⟨#[110, 111, 110, 101]⟩
def leafK (c : Int) : Int := if c = 110 then 5 else if c = 102 then 2 else if c = 116 then 2 else 1
/-- A value without kids: where it ends, its kind, its number, whether it is one. -/
def leafW (t : List Int) (c : Int) (p : Nat) : Nat × Int × Bool :=
  if c = 110 then ((takeW t p [110, 111, 110, 101]).1, 0, (takeW t p [110, 111, 110, 101]).2)
  else if c = 102 then ((takeW t p [102, 97, 108, 115, 101]).1, 0, (takeW t p [102, 97, 108, 115, 101]).2)
  else if c = 116 then ((takeW t p [116, 114, 117, 101]).1, 1, (takeW t p [116, 114, 117, 101]).2)
  else (p + (numL 18446744073709551615 (t.drop p) true 0).2, (numL 18446744073709551615 (t.drop p) true 0).1, decide (0 < (numL 18446744073709551615 (t.drop p) true 0).2))
def leafM (t : List Int) (c : Int) (st : PS) : PS × Bool :=
  if (leafW t c st.p).2.2 = true then (⟨(leafW t c st.p).1, addN st.N st.O (leafK c) (leafW t c st.p).2.1, popO (addN st.N st.O (leafK c) (leafW t c st.p).2.1) st.O, true⟩, true)
  else (⟨(leafW t c st.p).1, st.N, st.O, st.en⟩, false)
theorem takeW_pos (t : List Int) (c : Int) (r : List Int) (p : Nat) (h : (takeW t p (c :: r)).2 = true) (hp : p ≤ t.length) : p < (takeW t p (c :: r)).1 := by
  unfold takeW at h ⊢
  split
  · rename_i hc
    have hlt : p < t.length := by
      rcases Nat.lt_or_ge p t.length with h1 | h1
      · exact h1
      · rw [List.getElem?_eq_none h1] at hc; cases hc
    have := (takeW_le t r (p + 1) hlt).1
    omega
  · rename_i hc
    rw [if_neg hc] at h
    simp at h
theorem leafW_le (t : List Int) (c : Int) (p : Nat) (hp : p ≤ t.length) : p ≤ (leafW t c p).1 ∧ (leafW t c p).1 ≤ t.length ∧ ((leafW t c p).2.2 = true → p < (leafW t c p).1) := by
  unfold leafW
  split
  · exact ⟨(takeW_le t _ p hp).1, (takeW_le t _ p hp).2, fun h => takeW_pos t _ _ p h hp⟩
  · split
    · exact ⟨(takeW_le t _ p hp).1, (takeW_le t _ p hp).2, fun h => takeW_pos t _ _ p h hp⟩
    · split
      · exact ⟨(takeW_le t _ p hp).1, (takeW_le t _ p hp).2, fun h => takeW_pos t _ _ p h hp⟩
      · have := numL_le 18446744073709551615 (t.drop p) true 0
        rw [List.length_drop] at this
        refine ⟨by simp, by simp only; omega, fun h => ?_⟩
        simp only [decide_eq_true_eq] at h
        simp only
        omega
def RAt (B : Nat) (w : World) (b : Nat) (s : ByteArray) (st : PS) : Prop := ∃ vn vo, Rdr B w b s st.p vn vo st.N st.O st.en
set_option maxRecDepth 100000 in
set_option maxHeartbeats 8000000 in
theorem leaf_any (B b : Nat) (c : Int) (s : ByteArray) (st : PS) (w : World) (hR : Hid (RAt B w b s st)) (hs : s.size ≤ 1048576) (hk : PSok s.size st) :
    Calls Tryd.prog 75 #[.pointer (some ⟨b, 0, none⟩), .int .u8 c] w fun e w' => e = .returned (.bool (leafM (tx s) c st).2) ∧ Hid (RAt B w' b s (leafM (tx s) c st).1) ∧ Hid (KeptR B w w') := by
  obtain ⟨p, N, O, en⟩ := st
  obtain ⟨vn, vo, hr⟩ := hR.out
  have HR : Hid (Rdr B w b s p vn vo N O en) := hr
  clear hr hR
  have hp : p ≤ s.size := hk.pl
  have hnp : N.length ≤ p := hk.np
  have hol : O.length ≤ N.length := hk.ol
  have hon : ∀ o ∈ O, o < N.length := hk.on
  have hkd : ∀ o, 0 ≤ (N.getD o nil0).2.2 ∧ (N.getD o nil0).2.2 ≤ N.length := hk.kd
  have HL : Hid (leafM (tx s) c ⟨p, N, O, en⟩ = if (leafW (tx s) c p).2.2 = true then (⟨(leafW (tx s) c p).1, addN N O (leafK c) (leafW (tx s) c p).2.1, popO (addN N O (leafK c) (leafW (tx s) c p).2.1) O, true⟩, true) else (⟨(leafW (tx s) c p).1, N, O, en⟩, false)) := rfl
  go_enter Tryd.func75, Tryd.ntmps75
  by_cases h110 : c = 110
  · subst h110
    go_wp2_with fail
    refine (take_any B b p s ⟨#[110, 111, 110, 101]⟩ vn vo N O en w HR hp hs (by decide)).mono ?_; rintro e w1 ⟨rfl, H1, HK1⟩
    have HW : Hid (leafW (tx s) 110 p = ((takeW (tx s) p [110, 111, 110, 101]).1, 0, (takeW (tx s) p [110, 111, 110, 101]).2)) := rfl
    have htx : tx ⟨#[110, 111, 110, 101]⟩ = [110, 111, 110, 101] := rfl
    rw [htx] at H1 ⊢
    have hq := takeW_le (tx s) [110, 111, 110, 101] p (by rw [tx_len]; exact hp)
    rw [tx_len] at hq
    clear htx HR
    generalize takeW (tx s) p [110, 111, 110, 101] = r at *
    obtain ⟨q, d⟩ := r
    simp only at hq HW H1
    cases d with
    | true =>
      have HE : Hid (leafM (tx s) 110 ⟨p, N, O, en⟩ = (⟨q, addN N O 5 0, popO (addN N O 5 0) O, true⟩, true)) := by
        have := HL.out
        rw [HW.out] at this
        exact this
      have hlen := addN_len N O 5 0
      go_wp2_with fail
      refine (add_any B b q 5 0 s vn vo N O en w1 H1 hon (by omega) (by omega) (fun o => by have := hkd o; omega)).mono ?_; rintro e w2 ⟨rfl, vn2, H2, HK2⟩
      go_wp2_with fail
      refine (end_any B b q s vn2 vo (addN N O 5 0) O en w2 H2 (fun o ho => by have := hon o ho; omega) (by omega) (by omega)).mono ?_; rintro e w3 ⟨rfl, vo3, H3, HK3⟩
      go_wp2
      go_ret
      rw [HE.out]
      exact ⟨rfl, ⟨vn2, vo3, H3.out⟩, (HK1.out.trans HK2.out).trans HK3.out⟩
    | false =>
      have HE : Hid (leafM (tx s) 110 ⟨p, N, O, en⟩ = (⟨q, N, O, en⟩, false)) := by
        have := HL.out
        rw [HW.out] at this
        exact this
      go_wp2
      go_ret
      rw [HE.out]
      exact ⟨rfl, ⟨vn, vo, H1.out⟩, HK1.out⟩
  by_cases h102 : c = 102
  · subst h102
    go_wp2_with fail
    refine (take_any B b p s ⟨#[102, 97, 108, 115, 101]⟩ vn vo N O en w HR hp hs (by decide)).mono ?_; rintro e w1 ⟨rfl, H1, HK1⟩
    have HW : Hid (leafW (tx s) 102 p = ((takeW (tx s) p [102, 97, 108, 115, 101]).1, 0, (takeW (tx s) p [102, 97, 108, 115, 101]).2)) := rfl
    have htx : tx ⟨#[102, 97, 108, 115, 101]⟩ = [102, 97, 108, 115, 101] := rfl
    rw [htx] at H1 ⊢
    have hq := takeW_le (tx s) [102, 97, 108, 115, 101] p (by rw [tx_len]; exact hp)
    rw [tx_len] at hq
    clear htx HR
    generalize takeW (tx s) p [102, 97, 108, 115, 101] = r at *
    obtain ⟨q, d⟩ := r
    simp only at hq HW H1
    cases d with
    | true =>
      have HE : Hid (leafM (tx s) 102 ⟨p, N, O, en⟩ = (⟨q, addN N O 2 0, popO (addN N O 2 0) O, true⟩, true)) := by
        have := HL.out
        rw [HW.out] at this
        exact this
      have hlen := addN_len N O 2 0
      go_wp2_with fail
      refine (add_any B b q 2 0 s vn vo N O en w1 H1 hon (by omega) (by omega) (fun o => by have := hkd o; omega)).mono ?_; rintro e w2 ⟨rfl, vn2, H2, HK2⟩
      go_wp2_with fail
      refine (end_any B b q s vn2 vo (addN N O 2 0) O en w2 H2 (fun o ho => by have := hon o ho; omega) (by omega) (by omega)).mono ?_; rintro e w3 ⟨rfl, vo3, H3, HK3⟩
      go_wp2
      go_ret
      rw [HE.out]
      exact ⟨rfl, ⟨vn2, vo3, H3.out⟩, (HK1.out.trans HK2.out).trans HK3.out⟩
    | false =>
      have HE : Hid (leafM (tx s) 102 ⟨p, N, O, en⟩ = (⟨q, N, O, en⟩, false)) := by
        have := HL.out
        rw [HW.out] at this
        exact this
      go_wp2
      go_ret
      rw [HE.out]
      exact ⟨rfl, ⟨vn, vo, H1.out⟩, HK1.out⟩
  by_cases h116 : c = 116
  · subst h116
    go_wp2_with fail
    refine (take_any B b p s ⟨#[116, 114, 117, 101]⟩ vn vo N O en w HR hp hs (by decide)).mono ?_; rintro e w1 ⟨rfl, H1, HK1⟩
    have HW : Hid (leafW (tx s) 116 p = ((takeW (tx s) p [116, 114, 117, 101]).1, 1, (takeW (tx s) p [116, 114, 117, 101]).2)) := rfl
    have htx : tx ⟨#[116, 114, 117, 101]⟩ = [116, 114, 117, 101] := rfl
    rw [htx] at H1 ⊢
    have hq := takeW_le (tx s) [116, 114, 117, 101] p (by rw [tx_len]; exact hp)
    rw [tx_len] at hq
    clear htx HR
    generalize takeW (tx s) p [116, 114, 117, 101] = r at *
    obtain ⟨q, d⟩ := r
    simp only at hq HW H1
    cases d with
    | true =>
      have HE : Hid (leafM (tx s) 116 ⟨p, N, O, en⟩ = (⟨q, addN N O 2 1, popO (addN N O 2 1) O, true⟩, true)) := by
        have := HL.out
        rw [HW.out] at this
        exact this
      have hlen := addN_len N O 2 1
      go_wp2_with fail
      refine (add_any B b q 2 1 s vn vo N O en w1 H1 hon (by omega) (by omega) (fun o => by have := hkd o; omega)).mono ?_; rintro e w2 ⟨rfl, vn2, H2, HK2⟩
      go_wp2_with fail
      refine (end_any B b q s vn2 vo (addN N O 2 1) O en w2 H2 (fun o ho => by have := hon o ho; omega) (by omega) (by omega)).mono ?_; rintro e w3 ⟨rfl, vo3, H3, HK3⟩
      go_wp2
      go_ret
      rw [HE.out]
      exact ⟨rfl, ⟨vn2, vo3, H3.out⟩, (HK1.out.trans HK2.out).trans HK3.out⟩
    | false =>
      have HE : Hid (leafM (tx s) 116 ⟨p, N, O, en⟩ = (⟨q, N, O, en⟩, false)) := by
        have := HL.out
        rw [HW.out] at this
        exact this
      go_wp2
      go_ret
      rw [HE.out]
      exact ⟨rfl, ⟨vn, vo, H1.out⟩, HK1.out⟩
  · have hb1 : (c == 110) = false := by simpa using h110
    have hb2 : (c == 102) = false := by simpa using h102
    have hb3 : (c == 116) = false := by simpa using h116
    go_wp2_with fail
    refine (number_any B b p 18446744073709551615 s vn vo N O en w HR hp hs (by decide) (by decide)).mono ?_; rintro e w1 ⟨rfl, H1, HK1⟩
    have HW : Hid (leafW (tx s) c p = (p + (numL 18446744073709551615 ((tx s).drop p) true 0).2, (numL 18446744073709551615 ((tx s).drop p) true 0).1, decide (0 < (numL 18446744073709551615 ((tx s).drop p) true 0).2))) := by show _ = _; rw [leafW, if_neg h110, if_neg h102, if_neg h116]
    have HKd : Hid (leafK c = 1) := by show _ = _; rw [leafK, if_neg h110, if_neg h102, if_neg h116]
    have hq : (numL 18446744073709551615 ((tx s).drop p) true 0).2 ≤ s.size - p := by have := numL_le 18446744073709551615 ((tx s).drop p) true 0; rwa [List.length_drop, tx_len] at this
    rw [HKd.out] at HL
    clear HR
    generalize numL 18446744073709551615 ((tx s).drop p) true 0 = r at *
    obtain ⟨n, j⟩ := r
    simp only at hq HW H1
    generalize decide (0 < j) = d at *
    obtain ⟨q, hqe⟩ : ∃ q, p + j = q := ⟨_, rfl⟩
    rw [hqe] at HW H1
    have hq2 : q ≤ s.size := by omega
    clear hqe
    cases d with
    | true =>
      have HE : Hid (leafM (tx s) c ⟨p, N, O, en⟩ = (⟨q, addN N O 1 n, popO (addN N O 1 n) O, true⟩, true)) := by
        have := HL.out
        rw [HW.out] at this
        exact this
      have hlen := addN_len N O 1 n
      go_wp2_with fail
      refine (add_any B b q 1 n s vn vo N O en w1 H1 hon (by omega) (by omega) (fun o => by have := hkd o; omega)).mono ?_; rintro e w2 ⟨rfl, vn2, H2, HK2⟩
      go_wp2_with fail
      refine (end_any B b q s vn2 vo (addN N O 1 n) O en w2 H2 (fun o ho => by have := hon o ho; omega) (by omega) (by omega)).mono ?_; rintro e w3 ⟨rfl, vo3, H3, HK3⟩
      go_wp2
      go_ret
      rw [HE.out]
      exact ⟨rfl, ⟨vn2, vo3, H3.out⟩, (HK1.out.trans HK2.out).trans HK3.out⟩
    | false =>
      have HE : Hid (leafM (tx s) c ⟨p, N, O, en⟩ = (⟨q, N, O, en⟩, false)) := by
        have := HL.out
        rw [HW.out] at this
        exact this
      go_wp2
      go_ret
      rw [HE.out]
      exact ⟨rfl, ⟨vn, vo, H1.out⟩, HK1.out⟩
end Go.Proofs.YtlbgdgobhiokpaaDoor

/- begin. -/
namespace Go.Proofs.YtlbgdgobhiokpaaDoor
open Go.RowKit
set_option linter.unusedVariables false

def beginM (t : List Int) (c : Int) (st : PS) : PS × Bool :=
  if c = 91 then (⟨st.p + 1, addN st.N st.O 3 0, st.N.length :: st.O, st.en⟩, true)
  else if c = 123 then (⟨st.p + 1, addN st.N st.O 4 0, st.N.length :: st.O, st.en⟩, true)
  else if c = 60 then
    (if 0 < (numL 255 (t.drop (st.p + 1)) true 0).2 then
      (if (takeW t (st.p + 1 + (numL 255 (t.drop (st.p + 1)) true 0).2) [58]).2 = true then
        (⟨(takeW t (st.p + 1 + (numL 255 (t.drop (st.p + 1)) true 0).2) [58]).1, addN st.N st.O 6 (numL 255 (t.drop (st.p + 1)) true 0).1, st.N.length :: st.O, st.en⟩, true)
      else (⟨(takeW t (st.p + 1 + (numL 255 (t.drop (st.p + 1)) true 0).2) [58]).1, st.N, st.O, st.en⟩, false))
    else (⟨st.p + 1, st.N, st.O, st.en⟩, false))
  else if c = 115 then
    (if (takeW t st.p [115, 111, 109, 101, 32]).2 = true then (⟨(takeW t st.p [115, 111, 109, 101, 32]).1, addN st.N st.O 5 0, st.N.length :: st.O, st.en⟩, true)
    else (⟨(takeW t st.p [115, 111, 109, 101, 32]).1, st.N, st.O, st.en⟩, false))
  else leafM t c st
set_option maxRecDepth 100000 in
set_option maxHeartbeats 8000000 in
theorem begin2_any (B b : Nat) (c : Int) (s : ByteArray) (st : PS) (w : World) (hR : Hid (RAt B w b s st)) (hs : s.size ≤ 1048576) (hk : PSok s.size st) (hlt : st.p < s.size) :
    Calls Tryd.prog 64 #[.pointer (some ⟨b, 0, none⟩), .int .u8 c] w fun e w' => e = .returned (.bool (beginM (tx s) c st).2) ∧ Hid (RAt B w' b s (beginM (tx s) c st).1) ∧ Hid (KeptR B w w') := by
  by_cases hleaf : c ≠ 91 ∧ c ≠ 123 ∧ c ≠ 60 ∧ c ≠ 115
  · obtain ⟨h91, h123, h60, h115⟩ := hleaf
    have hb1 : (c == 91) = false := by simpa using h91
    have hb2 : (c == 123) = false := by simpa using h123
    have hb3 : (c == 60) = false := by simpa using h60
    have hb4 : (c == 115) = false := by simpa using h115
    have HE : Hid (beginM (tx s) c st = leafM (tx s) c st) := by show _ = _; rw [beginM, if_neg h91, if_neg h123, if_neg h60, if_neg h115]
    rw [HE.out]
    clear HE h91 h123 h60 h115
    go_enter Tryd.func64, Tryd.ntmps64
    go_wp2_with fail
    refine (leaf_any B b c s st w hR hs hk).mono ?_; rintro e w1 ⟨rfl, H1, HK1⟩
    go_wp2
    go_ret
    exact ⟨rfl, H1, HK1⟩
  obtain ⟨p, N, O, en⟩ := st
  obtain ⟨vn, vo, hr⟩ := hR.out
  have HR : Hid (Rdr B w b s p vn vo N O en) := hr
  clear hr hR
  have hp : p < s.size := hlt
  have hnp : N.length ≤ p := hk.np
  have hol : O.length ≤ N.length := hk.ol
  have hon : ∀ o ∈ O, o < N.length := hk.on
  have hkd : ∀ o, 0 ≤ (N.getD o nil0).2.2 ∧ (N.getD o nil0).2.2 ≤ N.length := hk.kd
  have c1 := HR.out.c1
  have z1 := HR.out.blk.frozen 1
  have HR1 : Hid (Rdr B (w.setCell ⟨b, 1, none⟩ (.int .i64 ((p : Int) + 1))) b s (p + 1) vn vo N O en) := HR.out.setp (p + 1)
  have HK1 : Hid (KeptR B w (w.setCell ⟨b, 1, none⟩ (.int .i64 ((p : Int) + 1)))) := HR.out.keptb 1 _
  go_enter Tryd.func64, Tryd.ntmps64
  by_cases h91 : c = 91
  · subst h91
    go_wp2_with fail
    refine (enter_any B b (p + 1) 3 0 s vn vo N O en _ HR1 hon (by omega) (by omega) (fun o => by have := hkd o; omega)).mono ?_; rintro e w2 ⟨rfl, vn2, vo2, H2, HK2⟩
    go_wp2
    go_ret
    exact ⟨rfl, ⟨vn2, vo2, H2.out⟩, HK1.out.trans HK2.out⟩
  by_cases h123 : c = 123
  · subst h123
    go_wp2_with fail
    refine (enter_any B b (p + 1) 4 0 s vn vo N O en _ HR1 hon (by omega) (by omega) (fun o => by have := hkd o; omega)).mono ?_; rintro e w2 ⟨rfl, vn2, vo2, H2, HK2⟩
    go_wp2
    go_ret
    exact ⟨rfl, ⟨vn2, vo2, H2.out⟩, HK1.out.trans HK2.out⟩
  by_cases h60 : c = 60
  · subst h60
    have HE : Hid (beginM (tx s) 60 ⟨p, N, O, en⟩ = if 0 < (numL 255 ((tx s).drop (p + 1)) true 0).2 then
      (if (takeW (tx s) (p + 1 + (numL 255 ((tx s).drop (p + 1)) true 0).2) [58]).2 = true then
        (⟨(takeW (tx s) (p + 1 + (numL 255 ((tx s).drop (p + 1)) true 0).2) [58]).1, addN N O 6 (numL 255 ((tx s).drop (p + 1)) true 0).1, N.length :: O, en⟩, true)
      else (⟨(takeW (tx s) (p + 1 + (numL 255 ((tx s).drop (p + 1)) true 0).2) [58]).1, N, O, en⟩, false))
    else (⟨p + 1, N, O, en⟩, false)) := rfl
    go_wp2_with fail
    refine (number_any B b (p + 1) 255 s vn vo N O en _ HR1 (by omega) hs (by decide) (by decide)).mono ?_; rintro e w2 ⟨rfl, H2, HK2⟩
    have hq : (numL 255 ((tx s).drop (p + 1)) true 0).2 ≤ s.size - (p + 1) := by have := numL_le 255 ((tx s).drop (p + 1)) true 0; rwa [List.length_drop, tx_len] at this
    generalize numL 255 ((tx s).drop (p + 1)) true 0 = r at *
    obtain ⟨n, j⟩ := r
    simp only at hq HE H2
    by_cases hj : 0 < j
    · have hdj : decide (0 < j) = true := by simpa using hj
      rw [if_pos hj] at HE
      obtain ⟨q, hqe⟩ : ∃ q, p + 1 + j = q := ⟨_, rfl⟩
      simp only [hqe] at HE H2
      have hq2 : q ≤ s.size := by omega
      rw [hdj]
      clear hqe hdj HR HR1
      go_wp2_with fail
      refine (take_any B b q s ⟨#[58]⟩ vn vo N O en w2 H2 hq2 hs (by decide)).mono ?_; rintro e w3 ⟨rfl, H3, HK3⟩
      have htx : tx ⟨#[58]⟩ = [58] := rfl
      rw [htx] at H3 ⊢
      have hq3 := takeW_le (tx s) [58] q (by rw [tx_len]; exact hq2)
      rw [tx_len] at hq3
      generalize takeW (tx s) q [58] = u at *
      obtain ⟨q2, d⟩ := u
      simp only at hq3 HE H3
      cases d with
      | true =>
        rw [if_pos rfl] at HE
        go_wp2_with fail
        refine (enter_any B b q2 6 n s vn vo N O en w3 H3 hon (by omega) (by omega) (fun o => by have := hkd o; omega)).mono ?_; rintro e w4 ⟨rfl, vn4, vo4, H4, HK4⟩
        go_wp2
        go_ret
        rw [HE.out]
        exact ⟨rfl, ⟨vn4, vo4, H4.out⟩, ((HK1.out.trans HK2.out).trans HK3.out).trans HK4.out⟩
      | false =>
        rw [if_neg (by simp)] at HE
        go_wp2
        go_ret
        rw [HE.out]
        exact ⟨rfl, ⟨vn, vo, H3.out⟩, (HK1.out.trans HK2.out).trans HK3.out⟩
    · have hdj : decide (0 < j) = false := by simpa using hj
      rw [if_neg hj] at HE
      obtain rfl : j = 0 := by omega
      rw [hdj]
      go_wp2
      go_ret
      rw [HE.out]
      exact ⟨rfl, ⟨vn, vo, H2.out⟩, HK1.out.trans HK2.out⟩
  · obtain rfl : c = 115 := by
      rcases Classical.em (c = 115) with h | h
      · exact h
      · exact absurd ⟨h91, h123, h60, h⟩ hleaf
    have HE : Hid (beginM (tx s) 115 ⟨p, N, O, en⟩ = if (takeW (tx s) p [115, 111, 109, 101, 32]).2 = true then (⟨(takeW (tx s) p [115, 111, 109, 101, 32]).1, addN N O 5 0, N.length :: O, en⟩, true) else (⟨(takeW (tx s) p [115, 111, 109, 101, 32]).1, N, O, en⟩, false)) := rfl
    clear HR1 HK1 c1 z1
    go_wp2_with fail
    refine (take_any B b p s ⟨#[115, 111, 109, 101, 32]⟩ vn vo N O en w HR (by omega) hs (by decide)).mono ?_; rintro e w3 ⟨rfl, H3, HK3⟩
    have htx : tx ⟨#[115, 111, 109, 101, 32]⟩ = [115, 111, 109, 101, 32] := rfl
    rw [htx] at H3 ⊢
    have hq3 := takeW_le (tx s) [115, 111, 109, 101, 32] p (by rw [tx_len]; omega)
    rw [tx_len] at hq3
    generalize takeW (tx s) p [115, 111, 109, 101, 32] = u at *
    obtain ⟨q2, d⟩ := u
    simp only at hq3 HE H3
    cases d with
    | true =>
      rw [if_pos rfl] at HE
      go_wp2_with fail
      refine (enter_any B b q2 5 0 s vn vo N O en w3 H3 hon (by omega) (by omega) (fun o => by have := hkd o; omega)).mono ?_; rintro e w4 ⟨rfl, vn4, vo4, H4, HK4⟩
      go_wp2
      go_ret
      rw [HE.out]
      exact ⟨rfl, ⟨vn4, vo4, H4.out⟩, HK3.out.trans HK4.out⟩
    | false =>
      rw [if_neg (by simp)] at HE
      go_wp2
      go_ret
      rw [HE.out]
      exact ⟨rfl, ⟨vn, vo, H3.out⟩, HK3.out⟩
end Go.Proofs.YtlbgdgobhiokpaaDoor

/- read: plain. -/
namespace Go.Proofs.YtlbgdgobhiokpaaDoor
open Go.RowKit
set_option linter.unusedVariables false

def rndM (t : List Int) (c : Int) (st : PS) : PS × Bool :=
  if c = 93 ∨ c = 125 ∨ c = 62 then (if mayC st.N st.O st.en c = true then (⟨st.p + 1, st.N, popO st.N st.O.tail, true⟩, true) else (st, false))
  else if c = 44 then
    (if mayGo st.N st.O st.en = true then
      (if (takeW t st.p [44, 32]).2 = true then (⟨(takeW t st.p [44, 32]).1, st.N, st.O, false⟩, true) else (⟨(takeW t st.p [44, 32]).1, st.N, st.O, st.en⟩, false))
    else (st, false))
  else if st.en = true then (st, false) else beginM t c st
def readM : Nat → List Int → PS → PS
  | 0, _, st => st
  | f + 1, t, st => match t[st.p]? with
    | none => st
    | some c => if (rndM t c st).2 = true then readM f t (rndM t c st).1 else (rndM t c st).1
theorem at_lt {t : List Int} {p : Nat} {c : Int} (h : t[p]? = some c) : p < t.length := by
  rcases Nat.lt_or_ge p t.length with h1 | h1
  · exact h1
  · rw [List.getElem?_eq_none h1] at h; cases h
theorem PSok.same {len : Nat} {p p' : Nat} {N : List Nd} {O O' : List Nat} {en en' : Bool} (h : PSok len ⟨p, N, O, en⟩) (hp : p ≤ p') (hl : p' ≤ len) (hO : ∀ o ∈ O', o ∈ O) (hO2 : O'.length ≤ O.length) : PSok len ⟨p', N, O', en'⟩ := by
  have h1 : N.length ≤ p := h.np
  have h2 : O.length ≤ N.length := h.ol
  exact ⟨hl, Nat.le_trans h1 hp, fun o ho => h.on o (hO o ho), Nat.le_trans hO2 h2, h.kd⟩
theorem leafM_ok {t : List Int} {c : Int} {st : PS} (h : PSok t.length st) : PSok t.length (leafM t c st).1 ∧ st.p ≤ (leafM t c st).1.p ∧ ((leafM t c st).2 = true → st.p < (leafM t c st).1.p) := by
  obtain ⟨p, N, O, en⟩ := st
  have hp : p ≤ t.length := h.pl
  obtain ⟨h1, h2, h3⟩ := leafW_le t c p hp
  unfold leafM
  simp only
  split
  · rename_i hok
    refine ⟨h.add _ _ (h3 hok) h2 (fun o ho => .inr ((popO_sub _ _).1 o ho)) (Nat.le_trans (popO_sub _ _).2 (by omega)), h1, fun _ => h3 hok⟩
  · exact ⟨h.same h1 h2 (fun _ h => h) (Nat.le_refl _), h1, fun h => by simp at h⟩
theorem beginM_ok {t : List Int} {c : Int} {st : PS} (h : PSok t.length st) (hlt : st.p < t.length) : PSok t.length (beginM t c st).1 ∧ st.p ≤ (beginM t c st).1.p ∧ ((beginM t c st).2 = true → st.p < (beginM t c st).1.p) := by
  obtain ⟨p, N, O, en⟩ := st
  have hp : p < t.length := hlt
  have mem : ∀ o ∈ N.length :: O, o = N.length ∨ o ∈ O := fun o ho => by simpa using ho
  unfold beginM
  simp only
  split
  · exact ⟨h.add _ _ (Nat.lt_succ_self _) hp mem (by simp), by simp, fun _ => by simp⟩
  · split
    · exact ⟨h.add _ _ (Nat.lt_succ_self _) hp mem (by simp), by simp, fun _ => by simp⟩
    · split
      · have hj := numL_le 255 (t.drop (p + 1)) true 0
        rw [List.length_drop] at hj
        have hq := takeW_le t [58] (p + 1 + (numL 255 (t.drop (p + 1)) true 0).2) (by omega)
        split
        · split
          · exact ⟨h.add _ _ (by omega) hq.2 mem (by simp), by simp only; omega, fun _ => by simp only; omega⟩
          · exact ⟨h.same (by omega) hq.2 (fun _ h => h) (Nat.le_refl _), by simp only; omega, fun h => by simp at h⟩
        · exact ⟨h.same (by omega) hp (fun _ h => h) (Nat.le_refl _), by simp, fun h => by simp at h⟩
      · split
        · have hq := takeW_le t [115, 111, 109, 101, 32] p (by omega)
          split
          · rename_i hok
            have hpos := takeW_pos t _ _ p hok (by omega)
            exact ⟨h.add _ _ hpos hq.2 mem (by simp), by simp only; omega, fun _ => hpos⟩
          · exact ⟨h.same hq.1 hq.2 (fun _ h => h) (Nat.le_refl _), hq.1, fun h => by simp at h⟩
        · exact leafM_ok h
theorem rndM_ok {t : List Int} {c : Int} {st : PS} (h : PSok t.length st) (hlt : st.p < t.length) : PSok t.length (rndM t c st).1 ∧ st.p ≤ (rndM t c st).1.p ∧ ((rndM t c st).2 = true → st.p < (rndM t c st).1.p) := by
  have hb := beginM_ok (c := c) h hlt
  obtain ⟨p, N, O, en⟩ := st
  have hp : p < t.length := hlt
  unfold rndM
  simp only
  split
  · split
    · refine ⟨h.same (by omega) hp (fun o ho => List.mem_of_mem_tail ((popO_sub _ _).1 o ho)) (Nat.le_trans (popO_sub _ _).2 (by simp)), by simp, fun _ => by simp⟩
    · exact ⟨h, Nat.le_refl _, fun h => by simp at h⟩
  · split
    · have hq := takeW_le t [44, 32] p (by omega)
      split
      · split
        · rename_i hok
          have hpos := takeW_pos t _ _ p hok (by omega)
          exact ⟨h.same hq.1 hq.2 (fun _ h => h) (Nat.le_refl _), hq.1, fun _ => hpos⟩
        · exact ⟨h.same hq.1 hq.2 (fun _ h => h) (Nat.le_refl _), hq.1, fun h => by simp at h⟩
      · exact ⟨h, Nat.le_refl _, fun h => by simp at h⟩
    · split
      · exact ⟨h, Nat.le_refl _, fun h => by simp at h⟩
      · exact hb
theorem readM_fuel (t : List Int) : ∀ (f g : Nat) (st : PS), PSok t.length st → t.length - st.p ≤ f → t.length - st.p ≤ g → readM f t st = readM g t st
  | 0, 0, _, _, _, _ => rfl
  | 0, g + 1, st, h, hf, _ => by
    rw [readM, readM, List.getElem?_eq_none (by omega)]
  | f + 1, 0, st, h, _, hg => by
    rw [readM, readM, List.getElem?_eq_none (by omega)]
  | f + 1, g + 1, st, h, hf, hg => by
    rw [readM, readM]
    cases hc : t[st.p]? with
    | none => rfl
    | some c =>
      have hlt := at_lt hc
      obtain ⟨h1, h2, h3⟩ := rndM_ok (c := c) h hlt
      simp only
      split
      · rename_i hok
        have := h3 hok
        exact readM_fuel t f g _ h1 (by omega) (by omega)
      · rfl
/-- The reading from a state on. -/
def readT (t : List Int) (st : PS) : PS := readM (t.length - st.p) t st
theorem readT_none {t : List Int} {st : PS} (h : t.length ≤ st.p) : readT t st = st := by rw [readT, show t.length - st.p = 0 by omega, readM]
theorem readT_some {t : List Int} {st : PS} {c : Int} (h : PSok t.length st) (hc : t[st.p]? = some c) : readT t st = if (rndM t c st).2 = true then readT t (rndM t c st).1 else (rndM t c st).1 := by
  have hlt := at_lt hc
  obtain ⟨h1, h2, h3⟩ := rndM_ok (c := c) h hlt
  rw [readT, show t.length - st.p = (t.length - st.p - 1) + 1 by omega, readM, hc]
  simp only
  split
  · rename_i hok
    have := h3 hok
    exact readM_fuel t _ _ _ h1 (by omega) (by omega)
  · rfl
theorem PSok.begin (len : Nat) : PSok len ⟨0, [], [], false⟩ := ⟨Nat.zero_le _, Nat.le_refl _, by simp, Nat.le_refl _, fun o => by simp [nil0]⟩
def okM (t : List Int) (st : PS) : Bool := decide (st.p = t.length) && st.en && decide (st.O = [])
end Go.Proofs.YtlbgdgobhiokpaaDoor
