/- layout.layoutOf. -/
import Derived.Test.YtncndgfaalojpaaEe
import Derived.Test.YtncndgfaalojpaaRgf
namespace Go.Proofs.Ytncndgfaalojpaa
open Go.RowKit
set_option linter.unusedVariables false

theorem infoS : (Try.prog.info? 77).map (fun i => (i.zero, i.size, i.bytes)) = some (some (.agg #[.int .i64 0, .bool false, .int .i64 0]), 3, 24) := by kernel_rfl
/-- A list of slots of the call's own. -/
def SOwn (w : World) (B : Nat) (v : Value) (l : List Sl) : Prop := w.ownsRow B 77 3 v l.length (cellsG slc l)
theorem SOwn.nil (w : World) (B : Nat) : SOwn w B (.slice none 0 0) [] := World.ownsRow_nil _ _ _ _
theorem SOwn.upd {w w' : World} {B : Nat} {v : Value} {l : List Sl} {S : Nat → Prop} (h : SOwn w B v l) (hu : Upd S w w') (hs : ∀ k, v.ownBlock = some k → ¬ S k) : SOwn w' B v l := ownS_upd h hu hs
theorem SOwn.later {w w' : World} {B : Nat} {v : Value} {l : List Sl} (h : SOwn w B v l) (hB : Below w.heap.size w w') : SOwn w' B v l := h.upd (Upd.of_below (S := fun _ => False) hB) (fun _ _ h => h)
theorem SOwn.push {w : World} {B : Nat} {v : Value} {l : List Sl} (h : SOwn w B v l) (x : Sl) (hl : l.length ≤ 1000000) (hB : B ≤ w.heap.size) :
    ∃ g cap w', (Builtin.append_ #[68, 68] 68 #[v, .slice (some ⟨w.heap.size, 0, none⟩) 1 1]).run Try.prog (w.alloc (.cells #[.int .i64 x.at_, .bool x.v, .int .i64 x.sz] 77)) = .ok (.slice (some ⟨g, 0, none⟩) (l.length + 1) cap) w' ∧ SOwn w' B (.slice (some ⟨g, 0, none⟩) (l.length + 1) cap) (l ++ [x]) ∧ Upd (fun k => v.ownBlock = some k) w w' ∧ (v.ownBlock = some g ∨ w.heap.size ≤ g) := by
  obtain ⟨g, cap, w', h1, h2, h3, h4⟩ := run_pushS (P := Try.prog) (t := 68) (e := 77) (c := 3) Try.underlying68 infoS rfl (by decide) w 68 h (slc x) rfl (fun u hu => by simp [slc] at hu; rcases hu with rfl | rfl | rfl <;> rfl) (by unfold maxLen; omega) (by omega) hB
  refine ⟨g, cap, w', h1, ?_, h3, h4⟩
  unfold SOwn
  rw [cellsG_app, cellsG_one, List.length_append, List.length_singleton]
  exact h2
theorem SOwn.row {w : World} {B : Nat} {v : Value} {l : List Sl} (h : SOwn w B v l) : ∃ a cap, v = .slice a l.length cap ∧ l.length ≤ cap ∧ (a = none → cap = 0) ∧ GRow 3 slc w a l := own_grow slc_len h
theorem SOwn.ne {w : World} {B b : Nat} {v : Value} {l : List Sl} {t : TypeId} {ys : List Value} (h : SOwn w B v l) (hb : Blk w b t ys) (ht : t ≠ 77) : ¬ v.ownBlock = some b := fun e => by
  obtain ⟨zs, hz⟩ := ownS_type h e
  exact ht (blk_type hb hz)
theorem SOwn.lies {w : World} {B : Nat} {v : Value} {l : List Sl} (h : SOwn w B v l) {k : Nat} (hk : v.ownBlock = some k) : B ≤ k ∧ k < w.heap.size := h.lt k hk
theorem retL {fn : Func} {p : Tmp} (h : fn.results = #[.cell p 70]) {R : Ending → World → Prop} {tmps : Array Value} {g : Nat} {w : World} {z : Int} {v : Value} (hp : tmps.getD p undef = .pointer (some ⟨g, 0, none⟩)) (hK : Blk w g 70 [.int .i64 z, v]) (hR : R (.returned (.agg #[.int .i64 z, v])) w) :
    bodyPost Try.prog fn R Exit.ret ⟨tmps, []⟩ w :=
  bodyPost_ret (results_cell_row h _ _ _ _ #[.int .i64 z, v] _ _ hp (show w.heap[g]? = some (.cells #[.int .i64 z, v] 70 (0, 0)) from hK) Try.underlying70 rfl (by show _ = some 2; kernel_rfl)) rfl hR
/-- layoutOf's memory: the type's box at q, the answer's at q + 1, the layout under way at q + 1 + 1. -/
structure LyS (w0 w : World) (q : Nat) (TC : List Value) (z : Int) (v : Value) (l : List Sl) : Prop where
  ty : Blk w q 43 TC
  res : Blk w (q + 1) 70 [.int .i64 0, .slice none 0 0]
  out : Blk w (q + 1 + 1) 70 [.int .i64 z, v]
  own : SOwn w q v l
  below : Below q w0 w
theorem LyS.later {w0 w w' : World} {q : Nat} {TC : List Value} {z : Int} {v : Value} {l : List Sl} (h : LyS w0 w q TC z v l) (hB : Below w.heap.size w w') : LyS w0 w' q TC z v l :=
  ⟨h.ty.later hB, h.res.later hB, h.out.later hB, h.own.later hB, h.below.trans (hB.mono (Nat.le_trans (Nat.le_of_lt h.ty.lt) (Nat.le_refl _)))⟩
theorem LyS.push {w0 w : World} {q : Nat} {TC : List Value} {z : Int} {v : Value} {l : List Sl} (h : LyS w0 w q TC z v l) (x : Sl) (hl : l.length ≤ 1000000) :
    ∃ g cap w', (Builtin.append_ #[68, 68] 68 #[v, .slice (some ⟨w.heap.size, 0, none⟩) 1 1]).run Try.prog (w.alloc (.cells #[.int .i64 x.at_, .bool x.v, .int .i64 x.sz] 77)) = .ok (.slice (some ⟨g, 0, none⟩) (l.length + 1) cap) w' ∧
      Blk w' (q + 1 + 1) 70 [.int .i64 z, v] ∧ LyS w0 (w'.setCell ⟨q + 1 + 1, 1, none⟩ (.slice (some ⟨g, 0, none⟩) (l.length + 1) cap)) q TC z (.slice (some ⟨g, 0, none⟩) (l.length + 1) cap) (l ++ [x]) ∧ Upd (fun k => v.ownBlock = some k) w w' ∧ Below q w w' := by
  have hq : q ≤ w.heap.size := Nat.le_of_lt h.ty.lt
  obtain ⟨g, cap, w', h1, h2, h3, h4⟩ := h.own.push x hl hq
  have hb := h3.below q hq (fun k hk => (h.own.lies hk).1)
  have ho := h.out.upd h3 (h.own.ne h.out (by decide))
  have hr := h.res.upd h3 (h.own.ne h.res (by decide))
  have ht := h.ty.upd h3 (h.own.ne h.ty (by decide))
  refine ⟨g, cap, w', h1, ho, ⟨?_, ?_, ?_, ?_, ?_⟩, h3, hb⟩
  · exact ht.other _ _ (by show q ≠ q + 1 + 1; omega)
  · exact hr.other _ _ (by show q + 1 ≠ q + 1 + 1; omega)
  · have h := ho.set 1 (.slice (some ⟨g, 0, none⟩) (l.length + 1) cap)
    simpa using h
  · refine h2.upd ((Upd.refl (fun k => k = q + 1 + 1) w').set _ _ (.inl rfl)) (fun k hk e => ?_)
    exact h2.ne ho (by decide) (e ▸ hk)
  · exact below_set (h.below.trans hb) _ _ _ (by omega)
theorem LyS.step {w0 w : World} {q : Nat} {TC : List Value} {z : Int} {v : Value} {l : List Sl} (h : LyS w0 w q TC z v l) (x : Sl) (hl : l.length ≤ 1000000) {b : Nat} (hg : Blk w b 77 (slc x)) (hgv : ¬ v.ownBlock = some b) :
    ∃ g cap w', (Builtin.append_ #[68, 68] 68 #[v, .slice (some ⟨w.heap.size, 0, none⟩) 1 1]).run Try.prog (w.alloc (.cells #[.int .i64 x.at_, .bool x.v, .int .i64 x.sz] 77)) = .ok (.slice (some ⟨g, 0, none⟩) (l.length + 1) cap) w' ∧
      Blk w' (q + 1 + 1) 70 [.int .i64 z, v] ∧ LyS w0 (w'.setCell ⟨q + 1 + 1, 1, none⟩ (.slice (some ⟨g, 0, none⟩) (l.length + 1) cap)) q TC z (.slice (some ⟨g, 0, none⟩) (l.length + 1) cap) (l ++ [x]) ∧ Blk (w'.setCell ⟨q + 1 + 1, 1, none⟩ (.slice (some ⟨g, 0, none⟩) (l.length + 1) cap)) b 77 (slc x) := by
  obtain ⟨g, cap, w', h1, h2, h3, h4, h5⟩ := h.push x hl
  refine ⟨g, cap, w', h1, h2, h3, (hg.upd h4 hgv).other _ _ (fun e => ?_)⟩
  exact absurd (blk_type h.out (e ▸ hg)) (by decide)
theorem LyS.size {w0 w : World} {q : Nat} {TC : List Value} {z : Int} {v : Value} {l : List Sl} (h : LyS w0 w q TC z v l) (y : Int) : LyS w0 (w.setCell ⟨q + 1 + 1, 0, none⟩ (.int .i64 y)) q TC y v l := by
  refine ⟨h.ty.other _ _ (by show q ≠ q + 1 + 1; omega), h.res.other _ _ (by show q + 1 ≠ q + 1 + 1; omega), ?_, ?_, below_set h.below _ _ _ (by omega)⟩
  · have := h.out.set 0 (.int .i64 y)
    simpa using this
  · refine h.own.upd ((Upd.refl (fun k => k = q + 1 + 1) w).set _ _ (.inl rfl)) (fun k hk e => ?_)
    exact h.own.ne h.out (by decide) (e ▸ hk)
theorem lys_start (w : World) (TC : Array Value) {w1 w2 w3 : World} (h1 : w1 = w.alloc (.cells TC 43)) (h2 : w2 = w1.alloc (.cells #[.int .i64 0, .slice none 0 0] 70)) (h3 : w3 = w2.alloc (.cells #[.int .i64 0, .slice none 0 0] 70)) :
    LyS w w3 w.heap.size TC.toList 0 (.slice none 0 0) [] := by
  have b1 : Below w.heap.size w w1 := by rw [h1]; exact below1 _ _
  have b2 : Below w1.heap.size w1 w2 := by rw [h2]; exact below1 _ _
  have b3 : Below w2.heap.size w2 w3 := by rw [h3]; exact below1 _ _
  have s1 : w1.heap.size = w.heap.size + 1 := by rw [h1]; simp
  have s2 : w2.heap.size = w.heap.size + 2 := by rw [h2]; simp [s1]
  have k1 : Blk w1 w.heap.size 43 TC.toList := by rw [h1]; exact Blk.newA w _ _
  have k2 : Blk w2 w1.heap.size 70 [.int .i64 0, .slice none 0 0] := by rw [h2]; exact Blk.newA w1 _ _
  have k3 : Blk w3 w2.heap.size 70 [.int .i64 0, .slice none 0 0] := by rw [h3]; exact Blk.newA w2 _ _
  rw [s1] at k2
  rw [s2] at k3
  exact ⟨(k1.later b2).later b3, k2.later b3, k3, SOwn.nil _ _, below_to (below_to b1 b2) b3⟩
/-- What layoutOf answers. -/
def LayTo (y : Ly) (w : World) (e : Ending) (w' : World) : Prop := ∃ v, e = .returned (.agg #[.int .i64 y.sz, v]) ∧ SOwn w' w.heap.size v y.sl ∧ Below w.heap.size w w'
theorem LyS.end_ {w0 w : World} {q : Nat} {TC : List Value} {z : Int} {v : Value} {l : List Sl} (h : LyS w0 w q TC z v l) : Blk ((w.setCell ⟨q + 1, 0, none⟩ (.int .i64 z)).setCell ⟨q + 1, 1, none⟩ v) (q + 1) 70 [.int .i64 z, v] ∧ SOwn ((w.setCell ⟨q + 1, 0, none⟩ (.int .i64 z)).setCell ⟨q + 1, 1, none⟩ v) q v l ∧ Below q w0 ((w.setCell ⟨q + 1, 0, none⟩ (.int .i64 z)).setCell ⟨q + 1, 1, none⟩ v) := by
  refine ⟨?_, ?_, below_set (below_set h.below _ _ _ (by omega)) _ _ _ (by omega)⟩
  · have := (h.res.set 0 (.int .i64 z)).set 1 v
    simpa using this
  · refine h.own.upd (((Upd.refl (fun k => k = q + 1) w).set _ _ (.inl rfl)).set _ _ (.inl rfl)) (fun k hk e => ?_)
    exact h.own.ne h.res (by decide) (e ▸ hk)
set_option maxRecDepth 100000 in
set_option maxHeartbeats 8000000 in
theorem lay0_any (k n el : Int) (ps : List Pt) (va : Option Addr) (vc : Nat) (X : List Ex) (ax : Option Addr) (cx : Nat) (w : World) (hXl : X.length ≤ 10000000000000) (hbd : Hid (∀ x ∈ X, XOk x)) (i : Nat) (hiX : i ≤ X.length) (hok : Hid (tyOk ⟨k, n, el, ps⟩ i = true)) (hP : Hid (PRow w va ps)) (hX : Hid (XRow w ax X)) (h8 : (k == 8) = false) (h4 : (k == 4) = false) (h5 : (k == 5) = false) :
    Calls Try.prog 22 #[.agg #[.int .i64 k, .int .i64 n, .int .i64 el, .slice va ps.length vc], .slice ax X.length cx] w fun e w' => LayTo (layP X ⟨k, n, el, ps⟩) w e w' := by
  obtain ⟨w1, hw1⟩ : ∃ wx, wx = w.alloc (.cells #[.int .i64 k, .int .i64 n, .int .i64 el, .slice va ps.length vc] 43) := ⟨_, rfl⟩
  obtain ⟨w2, hw2⟩ : ∃ wx, wx = w1.alloc (.cells #[.int .i64 0, .slice none 0 0] 70) := ⟨_, rfl⟩
  obtain ⟨w3, hw3⟩ : ∃ wx, wx = w2.alloc (.cells #[.int .i64 0, .slice none 0 0] 70) := ⟨_, rfl⟩
  have HS := hide_ (lys_start w #[.int .i64 k, .int .i64 n, .int .i64 el, .slice va ps.length vc] hw1 hw2 hw3)
  have HY := hide_ (rfl : layP X ⟨k, n, el, ps⟩ = layP X ⟨k, n, el, ps⟩)
  obtain ⟨y, hy⟩ : ∃ y, layP X ⟨k, n, el, ps⟩ = y := ⟨_, rfl⟩
  rw [hy]
  have HYd := hide_ hy
  have t0 := HS.out.ty.cell 0; have t1 := HS.out.ty.cell 1; have t2 := HS.out.ty.cell 2; have t3 := HS.out.ty.cell 3
  simp at t0 t1 t2 t3
  obtain ⟨q, hq⟩ : ∃ q, w.heap.size = q := ⟨_, rfl⟩
  clear hy HY
  go_enter Try.func22, Try.ntmps22
  go_upto_region 2 with fail
  rw [← hw1, ← hw2, ← hw3]
  rw [hq] at HS t0 t1 t2 t3
  have HQ := hide_ hq
  clear hw1 hw2 hw3 hq
  have HYe : Hid (y = ⟨0, []⟩) := hide_ (by
    rw [← HYd.out]
    unfold layP
    have e8 : ¬ k = 8 := by simpa using h8
    have e4 : ¬ k = 4 := by simpa using h4
    have e5 : ¬ k = 5 := by simpa using h5
    rw [if_neg e8, if_neg e4, if_neg e5])
  have LS := HS
  have o0 := LS.out.out.cell 0; have o1 := LS.out.out.cell 1
  have r0 := LS.out.res.cell 0; have r1 := LS.out.res.cell 1
  have rf := fun i => LS.out.res.frozen i
  simp at o0 o1 r0 r1
  obtain ⟨hK, hO, hB⟩ := LS.out.end_
  have HK := hide_ hK
  have HO := hide_ hO
  have HB := hide_ hB
  clear hK hO hB
  go_wp2
  refine retL rfl rfl HK.out ⟨_, by rw [HYe.out], by rw [HYe.out, HQ.out]; exact HO.out, by rw [HQ.out]; exact HB.out⟩
set_option maxRecDepth 100000 in
set_option maxHeartbeats 8000000 in
theorem lay4_any (n el : Int) (ps : List Pt) (va : Option Addr) (vc : Nat) (X : List Ex) (ax : Option Addr) (cx : Nat) (w : World) (hXl : X.length ≤ 10000000000000) (hbd : Hid (∀ x ∈ X, XOk x)) (i : Nat) (hiX : i ≤ X.length) (hok : Hid (tyOk ⟨4, n, el, ps⟩ i = true)) (hP : Hid (PRow w va ps)) (hX : Hid (XRow w ax X)) :
    Calls Try.prog 22 #[.agg #[.int .i64 4, .int .i64 n, .int .i64 el, .slice va ps.length vc], .slice ax X.length cx] w fun e w' => LayTo (layP X ⟨4, n, el, ps⟩) w e w' := by
  obtain ⟨w1, hw1⟩ : ∃ wx, wx = w.alloc (.cells #[.int .i64 4, .int .i64 n, .int .i64 el, .slice va ps.length vc] 43) := ⟨_, rfl⟩
  obtain ⟨w2, hw2⟩ : ∃ wx, wx = w1.alloc (.cells #[.int .i64 0, .slice none 0 0] 70) := ⟨_, rfl⟩
  obtain ⟨w3, hw3⟩ : ∃ wx, wx = w2.alloc (.cells #[.int .i64 0, .slice none 0 0] 70) := ⟨_, rfl⟩
  have HS := hide_ (lys_start w #[.int .i64 4, .int .i64 n, .int .i64 el, .slice va ps.length vc] hw1 hw2 hw3)
  have HY := hide_ (rfl : layP X ⟨4, n, el, ps⟩ = layP X ⟨4, n, el, ps⟩)
  obtain ⟨y, hy⟩ : ∃ y, layP X ⟨4, n, el, ps⟩ = y := ⟨_, rfl⟩
  rw [hy]
  have HYd := hide_ hy
  have t0 := HS.out.ty.cell 0; have t1 := HS.out.ty.cell 1; have t2 := HS.out.ty.cell 2; have t3 := HS.out.ty.cell 3
  simp at t0 t1 t2 t3
  obtain ⟨q, hq⟩ : ∃ q, w.heap.size = q := ⟨_, rfl⟩
  clear hy HY
  go_enter Try.func22, Try.ntmps22
  go_upto_region 2 with fail
  rw [← hw1, ← hw2, ← hw3]
  rw [hq] at HS t0 t1 t2 t3
  have HQ := hide_ hq
  clear hw1 hw2 hw3 hq
  have hel := tyOk_elem hok.out (show hasE 4 = true by decide)
  simp only at hel
  obtain ⟨j, hj⟩ : ∃ j : Nat, el = (j : Int) := ⟨el.toNat, by omega⟩
  subst hj
  have hjX : j < X.length := by omega
  have hjX' : (j : Int) < X.length := by omega
  have hx := exAt_at hjX
  have HXo := hide_ (XOk.at hbd.out (j : Int))
  obtain ⟨bx, ox, hax, hbx, hcx⟩ := hX.out.open (by omega)
  subst hax
  have HXc : Hid (∀ w', Below w.heap.size w w' → ∀ m, m < 4 → w'.cell? ⟨bx, ox + j * 4 + m, none⟩ = (exc (exAt X (j : Int)))[m]?) := hide_ (fun w' hb m hm => (hb.cell (p := ⟨bx, ox + j * 4 + m, none⟩) hbx).trans (hcx j _ hx m hm))
  obtain ⟨s, hs⟩ : ∃ s, slotP (exAt X (j : Int)) 0 = s := ⟨_, rfl⟩
  have HCs : Hid (∀ w', Calls Try.prog 50 #[.agg #[.bool (exAt X (j : Int)).f, .int .i64 (exAt X (j : Int)).l, .int .i64 (exAt X (j : Int)).m, .int .i64 (exAt X (j : Int)).d], .int .i64 0] w' fun e w2 => e = .returned (slv s) ∧ Below w'.heap.size w' w2) := hide_ (fun w' => by have h := slotOf_any (exAt X (j : Int)) 0 w'; rwa [hs] at h)
  have HY4 : Hid (y = ⟨times2 n s.sz, [s]⟩) := hide_ (by rw [← HYd.out, ← hs]; simp [layP])
  have HSb := hide_ (slotP_bd HXo.out 0)
  rw [hs] at HSb
  have HSe := hide_ hs
  have hB3 : Below w.heap.size w w3 := by have := HS.out.below; rw [← HQ.out] at this; exact this
  have c0 := HXc.out w3 hB3 0 (by decide); have c1 := HXc.out w3 hB3 1 (by decide); have c2 := HXc.out w3 hB3 2 (by decide); have c3 := HXc.out w3 hB3 3 (by decide)
  simp [exc] at c0 c1 c2 c3
  clear hcx hx hs hB3
  generalize exAt X (j : Int) = xe at *
  obtain ⟨xf, xl, xm, xd⟩ := xe
  simp only at c0 c1 c2 c3 HCs HXc HSe
  obtain ⟨sa, sv, ss⟩ := s
  have hn := nOk_n hok.out
  simp only at hn
  have hn1 : 0 < n ∧ n ≤ 1048576 := by omega
  clear hn
  obtain ⟨pz, hpz⟩ : ∃ pz, times2 n ss = pz := ⟨_, rfl⟩
  have HCt : Hid (∀ w', Calls Try.prog 52 #[.int .i64 n, .int .i64 ss] w' fun e w2 => e = .returned (.int .i64 pz) ∧ w' = w2) := hide_ (fun w' => by have h := ltimes_any n ss w' hn1.1 hn1.2 HSb.out.1 HSb.out.2; rwa [hpz] at h)
  have HYe : Hid (y = ⟨pz, [⟨sa, sv, ss⟩]⟩) := hide_ (by rw [HY4.out]; simp only; rw [hpz])
  clear hpz HYd HY4
  go_wp2_with fail
  refine (HCs.out _).mono ?_
  rintro e w4 ⟨rfl, hB4⟩
  have hS4 := HS.out.later hB4
  have kS := Blk.newA w4 #[.int .i64 sa, .bool sv, .int .i64 ss] 77
  have hB5 := below1 w4 (.cells #[.int .i64 sa, .bool sv, .int .i64 ss] 77)
  obtain ⟨w5, hw5⟩ : ∃ wx, wx = w4.alloc (.cells #[.int .i64 sa, .bool sv, .int .i64 ss] 77) := ⟨_, rfl⟩
  rw [← hw5] at kS hB5
  have HS5 := hide_ (hS4.later hB5)
  obtain ⟨g, cap, w6, hrun, hb6, hS6, hk6⟩ := HS5.out.step ⟨sa, sv, ss⟩ (by decide) kS (by simp [Value.ownBlock])
  have HRun := hide_ hrun
  have HS6 := hide_ hS6
  have HK6 := hide_ hk6
  have u1 := HS5.out.out.cell 1
  have s0 := kS.cell 0; have s1 := kS.cell 1; have s2 := kS.cell 2
  have v1 := hb6.cell 1
  have vf := fun i => hb6.frozen i
  simp at u1 s0 s1 s2 v1
  simp only [slv]
  clear kS hB5 t0 t1 t2 t3 c0 c1 c2 c3 hrun hb6 hS6 hk6 hS4 hB4
  go_upto_region 13 with fail
  rw [← hw5]
  clear hw5
  obtain ⟨w7, hw7⟩ : ∃ wx, wx = w6.setCell ⟨q + 1 + 1, 1, none⟩ (.slice (some ⟨g, 0, none⟩) 1 cap) := ⟨_, rfl⟩
  have HS7 : Hid (LyS w w7 q [.int .i64 4, .int .i64 n, .int .i64 (j : Int), .slice va ps.length vc] 0 (.slice (some ⟨g, 0, none⟩) 1 cap) [⟨sa, sv, ss⟩]) := hide_ (by rw [hw7]; exact HS6.out)
  have HK7 : Hid (Blk w7 w4.heap.size 77 [.int .i64 sa, .bool sv, .int .i64 ss]) := hide_ (by rw [hw7]; exact HK6.out)
  have LS := hide_ (HS7.out.size pz)
  have a1 := HS7.out.ty.cell 1
  have a2 := HK7.out.cell 2
  have b0 := HS7.out.out.cell 0
  have bf := fun i => HS7.out.out.frozen i
  simp at a1 a2 b0
  clear HS6 HK6
  go_upto_region 14 with (first | (at_builtin; refine wpList_append_run rfl (.tmp 51) (.tmp 53) 68 68 rfl rfl rfl HRun.out ?_; clear HRun) | fail)
  rw [← hw7]
  clear hw7
  go_wp2_with fail
  refine (HCt.out _).mono ?_
  rintro e w8 ⟨rfl, rfl⟩
  have o0 := LS.out.out.cell 0; have o1 := LS.out.out.cell 1
  have r0 := LS.out.res.cell 0; have r1 := LS.out.res.cell 1
  have rf := fun i => LS.out.res.frozen i
  simp at o0 o1 r0 r1
  obtain ⟨hK, hO, hB⟩ := LS.out.end_
  have HK := hide_ hK
  have HO := hide_ hO
  have HB := hide_ hB
  clear hK hO hB
  go_wp2
  refine retL rfl rfl HK.out ⟨_, by rw [HYe.out], by rw [HYe.out, HQ.out]; exact HO.out, by rw [HQ.out]; exact HB.out⟩
set_option maxRecDepth 100000 in
set_option maxHeartbeats 8000000 in
theorem lay5_any (n el : Int) (ps : List Pt) (va : Option Addr) (vc : Nat) (X : List Ex) (ax : Option Addr) (cx : Nat) (w : World) (hXl : X.length ≤ 10000000000000) (hbd : Hid (∀ x ∈ X, XOk x)) (i : Nat) (hiX : i ≤ X.length) (hok : Hid (tyOk ⟨5, n, el, ps⟩ i = true)) (hP : Hid (PRow w va ps)) (hX : Hid (XRow w ax X)) :
    Calls Try.prog 22 #[.agg #[.int .i64 5, .int .i64 n, .int .i64 el, .slice va ps.length vc], .slice ax X.length cx] w fun e w' => LayTo (layP X ⟨5, n, el, ps⟩) w e w' := by
  obtain ⟨w1, hw1⟩ : ∃ wx, wx = w.alloc (.cells #[.int .i64 5, .int .i64 n, .int .i64 el, .slice va ps.length vc] 43) := ⟨_, rfl⟩
  obtain ⟨w2, hw2⟩ : ∃ wx, wx = w1.alloc (.cells #[.int .i64 0, .slice none 0 0] 70) := ⟨_, rfl⟩
  obtain ⟨w3, hw3⟩ : ∃ wx, wx = w2.alloc (.cells #[.int .i64 0, .slice none 0 0] 70) := ⟨_, rfl⟩
  have HS := hide_ (lys_start w #[.int .i64 5, .int .i64 n, .int .i64 el, .slice va ps.length vc] hw1 hw2 hw3)
  have HY := hide_ (rfl : layP X ⟨5, n, el, ps⟩ = layP X ⟨5, n, el, ps⟩)
  obtain ⟨y, hy⟩ : ∃ y, layP X ⟨5, n, el, ps⟩ = y := ⟨_, rfl⟩
  rw [hy]
  have HYd := hide_ hy
  have t0 := HS.out.ty.cell 0; have t1 := HS.out.ty.cell 1; have t2 := HS.out.ty.cell 2; have t3 := HS.out.ty.cell 3
  simp at t0 t1 t2 t3
  obtain ⟨q, hq⟩ : ∃ q, w.heap.size = q := ⟨_, rfl⟩
  clear hy HY
  go_enter Try.func22, Try.ntmps22
  go_upto_region 2 with fail
  rw [← hw1, ← hw2, ← hw3]
  rw [hq] at HS t0 t1 t2 t3
  have HQ := hide_ hq
  clear hw1 hw2 hw3 hq
  have hel := tyOk_elem hok.out (show hasE 5 = true by decide)
  simp only at hel
  obtain ⟨j, hj⟩ : ∃ j : Nat, el = (j : Int) := ⟨el.toNat, by omega⟩
  subst hj
  have hjX : j < X.length := by omega
  have hjX' : (j : Int) < X.length := by omega
  have hx := exAt_at hjX
  have HXo := hide_ (XOk.at hbd.out (j : Int))
  obtain ⟨bx, ox, hax, hbx, hcx⟩ := hX.out.open (by omega)
  subst hax
  have HXc : Hid (∀ w', Below w.heap.size w w' → ∀ m, m < 4 → w'.cell? ⟨bx, ox + j * 4 + m, none⟩ = (exc (exAt X (j : Int)))[m]?) := hide_ (fun w' hb m hm => (hb.cell (p := ⟨bx, ox + j * 4 + m, none⟩) hbx).trans (hcx j _ hx m hm))
  obtain ⟨s, hs⟩ : ∃ s, slotP (exAt X (j : Int)) 0 = s := ⟨_, rfl⟩
  have HCs : Hid (∀ w', Calls Try.prog 50 #[.agg #[.bool (exAt X (j : Int)).f, .int .i64 (exAt X (j : Int)).l, .int .i64 (exAt X (j : Int)).m, .int .i64 (exAt X (j : Int)).d], .int .i64 0] w' fun e w2 => e = .returned (slv s) ∧ Below w'.heap.size w' w2) := hide_ (fun w' => by have h := slotOf_any (exAt X (j : Int)) 0 w'; rwa [hs] at h)
  have HYe : Hid (y = ⟨0, [s]⟩) := hide_ (by rw [← HYd.out, ← hs]; simp [layP])
  have HSb := hide_ (slotP_bd HXo.out 0)
  rw [hs] at HSb
  have HSe := hide_ hs
  have hB3 : Below w.heap.size w w3 := by have := HS.out.below; rw [← HQ.out] at this; exact this
  have c0 := HXc.out w3 hB3 0 (by decide); have c1 := HXc.out w3 hB3 1 (by decide); have c2 := HXc.out w3 hB3 2 (by decide); have c3 := HXc.out w3 hB3 3 (by decide)
  simp [exc] at c0 c1 c2 c3
  clear hcx hx hs hB3
  generalize exAt X (j : Int) = xe at *
  obtain ⟨xf, xl, xm, xd⟩ := xe
  simp only at c0 c1 c2 c3 HCs HXc HSe
  obtain ⟨sa, sv, ss⟩ := s
  clear HYd
  have HSS : Hid (∀ w', Below w3.heap.size w3 w' → w'.cell? ⟨q + 1 + 1, 1, none⟩ = some (.slice none 0 0) ∧ w'.cell? ⟨q, 2, none⟩ = some (.int .i64 (j : Int)) ∧ w'.cell? ⟨bx, ox + j * 4, none⟩ = some (.bool xf) ∧ w'.cell? ⟨bx, ox + j * 4 + 1, none⟩ = some (.int .i64 xl) ∧ w'.cell? ⟨bx, ox + j * 4 + 2, none⟩ = some (.int .i64 xm) ∧ w'.cell? ⟨bx, ox + j * 4 + 3, none⟩ = some (.int .i64 xd)) := hide_ (fun w' hb => by
    have h := HS.out.later hb
    have hw : Below w.heap.size w w' := by have := h.below; rw [← HQ.out] at this; exact this
    have c0 := HXc.out w' hw 0 (by decide); have c1 := HXc.out w' hw 1 (by decide); have c2 := HXc.out w' hw 2 (by decide); have c3 := HXc.out w' hw 3 (by decide)
    simp [exc] at c0 c1 c2 c3
    have u := h.out.cell 1
    have t := h.ty.cell 2
    simp at u t
    exact ⟨u, t, c0, c1, c2, c3⟩)
  clear t1 t2 t3 c0 c1 c2 c3
  go_upto_region 16 with fail
  refine wp_region_last 11 (fun w' => w'.cell? ⟨q + 1 + 1, 1, none⟩ = some (.slice none 0 0) ∧ w'.cell? ⟨q, 2, none⟩ = some (.int .i64 (j : Int)) ∧ w'.cell? ⟨bx, ox + j * 4, none⟩ = some (.bool xf) ∧ w'.cell? ⟨bx, ox + j * 4 + 1, none⟩ = some (.int .i64 xl) ∧ w'.cell? ⟨bx, ox + j * 4 + 2, none⟩ = some (.int .i64 xm) ∧ w'.cell? ⟨bx, ox + j * 4 + 3, none⟩ = some (.int .i64 xd)) (by kernel_rfl) (HSS.out _ ((Below.refl w3.heap.size w3).drew)) (fun hHeld => ?_)
  refine wpAnyF_take [11] (by kernel_rfl) (i := 0) (v := ?vg1) rfl (by kernel_rfl) (by kernel_rfl) (by kernel_rfl) (fun _ _ _ h => h) (Or.inl ⟨by kernel_rfl, ?hyg1⟩) hHeld ?restg1
  case hyg1 => intro w' hSw; (try dsimp only at hSw); go_simp; try with_reducible rfl
  simp only [Act.put]
  refine wpAnyF_take [11] (by kernel_rfl) (i := 1) (v := ?vg2) rfl (by kernel_rfl) (by kernel_rfl) (by kernel_rfl) (fun _ _ _ h => h) (Or.inl ⟨by kernel_rfl, ?hyg2⟩) hHeld ?restg2
  case hyg2 => intro w' hSw; (try dsimp only at hSw); go_simp; try with_reducible rfl
  simp only [Act.put]
  refine wpAnyF_take [11] (by kernel_rfl) (i := 2) (v := ?vg3) rfl (by kernel_rfl) (by kernel_rfl) (by kernel_rfl) (fun _ _ _ h => h) (Or.inl ⟨by kernel_rfl, ?hyg3⟩) hHeld ?restg3
  case hyg3 => intro w' hSw; (try dsimp only at hSw); go_simp; try with_reducible rfl
  simp only [Act.put]
  refine wpAnyF_take [11] (by kernel_rfl) (i := 3) (v := ?vg4) rfl (by kernel_rfl) (by kernel_rfl) (by kernel_rfl) (fun _ _ _ h => h) (Or.inl ⟨by kernel_rfl, ?hyg4⟩) hHeld ?restg4
  case hyg4 => intro w' hSw; (try dsimp only at hSw); go_simp; try with_reducible rfl
  simp only [Act.put]
  refine wpAnyF_take [11] (by kernel_rfl) (i := 4) (v := ?vg5) rfl (by kernel_rfl) (by kernel_rfl) (by kernel_rfl) (fun _ _ _ h => h) (Or.inl ⟨by kernel_rfl, ?hyg5⟩) hHeld ?restg5
  case hyg5 => intro w' hSw; (try dsimp only at hSw); go_simp; try with_reducible rfl
  simp only [Act.put]
  refine wpAnyF_take [11] (by kernel_rfl) (i := 5) (v := ?vg6) rfl (by kernel_rfl) (by kernel_rfl) (by kernel_rfl) (fun _ _ _ h => h) (Or.inl ⟨by kernel_rfl, ?hyg6⟩) hHeld ?restg6
  case hyg6 => intro w' hSw; (try dsimp only at hSw); go_simp; try with_reducible rfl
  simp only [Act.put]
  refine wpAnyF_take [11] (by kernel_rfl) (i := 6) (v := ?vg7) rfl (by kernel_rfl) (by kernel_rfl) (by kernel_rfl) (fun _ _ _ h => h) (Or.inl ⟨by kernel_rfl, ?hyg7⟩) hHeld ?restg7
  case hyg7 => intro w' hSw; (try dsimp only at hSw); go_simp; try with_reducible rfl
  simp only [Act.put]
  refine wpAnyF_ready (rs := [7]) (by kernel_rfl) (by simp) ?_
  refine AllReadyF.cons rfl (fun K hK => ?_) AllReadyF.nil
  go_simp
  refine (HCs.out _).mono ?_
  rintro e w4 ⟨rfl, hB4⟩
  dsimp only
  have HB4 : Hid (Below w3.heap.size w3 w4) := hide_ (below_to ((Below.refl w3.heap.size w3).drew) hB4)
  have HS4 := hide_ (HS.out.later HB4.out)
  obtain ⟨g, cap, w6, hrun, hb6, hS6, hU6, -⟩ := HS4.out.push ⟨sa, sv, ss⟩ (by decide)
  have HRun := hide_ hrun
  have LS := hide_ hS6
  have v1 := hb6.cell 1
  have vf := fun i => hb6.frozen i
  simp at v1
  have HB6 : Hid (Below w3.heap.size w3 w6) := hide_ (HB4.out.trans (hU6.below _ HB4.out.size (fun k hk => by simp [Value.ownBlock] at hk)))
  clear hrun hb6 hS6 hB4
  refine hK.out _ _ (HSS.out _ HB4.out) (fun hHeld => ?_)
  clear hK K
  refine wpAnyF_ready (rs := [8]) (by kernel_rfl) (by simp) ?_
  refine AllReadyF.cons rfl (fun K hK => ?_) AllReadyF.nil
  simp only [slv]
  go_simp
  refine hK.out _ _ (HSS.out _ (below_to HB4.out (below1 _ _))) (fun hHeld => ?_)
  clear hK K
  refine wpAnyF_ready (rs := [9]) (by kernel_rfl) (by simp) ?_
  refine AllReadyF.cons rfl (fun K hK => ?_) AllReadyF.nil
  refine step_append_run rfl (.tmp 65) (.tmp 72) 68 68 rfl rfl rfl HRun.out ?_
  refine hK.out _ _ (HSS.out _ HB6.out) (fun hHeld => ?_)
  clear hK K
  refine wpAnyF_take [11] (by kernel_rfl) (i := 10) (v := ?vg8) rfl (by kernel_rfl) (by kernel_rfl) (by kernel_rfl) (fun _ _ _ h => h) (Or.inl ⟨by kernel_rfl, ?hyg8⟩) hHeld ?restg8
  case hyg8 => intro w' hSw; (try dsimp only at hSw); go_simp; try with_reducible rfl
  simp only [Act.put]
  refine wpAnyF_ready (rs := [11]) (by kernel_rfl) (by simp) ?_
  refine AllReadyF.last rfl (fun K hK => ?_)
  go_simp
  refine hK.out _ _ ?_
  clear hK K
  refine wpAnyF_done (by kernel_rfl) ?_ _
  clear HSS hHeld HRun HCs HXc
  obtain ⟨w7, hw7⟩ : ∃ wx, wx = w6.setCell ⟨q + 1 + 1, 1, none⟩ (.slice (some ⟨g, 0, none⟩) 1 cap) := ⟨_, rfl⟩
  have LS : Hid (LyS w w7 q [.int .i64 5, .int .i64 n, .int .i64 (j : Int), .slice va ps.length vc] 0 (.slice (some ⟨g, 0, none⟩) 1 cap) [⟨sa, sv, ss⟩]) := hide_ (by rw [hw7]; exact LS.out)
  rw [← hw7]
  clear hw7
  have o0 := LS.out.out.cell 0; have o1 := LS.out.out.cell 1
  have r0 := LS.out.res.cell 0; have r1 := LS.out.res.cell 1
  have rf := fun i => LS.out.res.frozen i
  simp at o0 o1 r0 r1
  obtain ⟨hK, hO, hB⟩ := LS.out.end_
  have HK := hide_ hK
  have HO := hide_ hO
  have HB := hide_ hB
  clear hK hO hB
  go_wp2
  refine retL rfl rfl HK.out ⟨_, by rw [HYe.out], by rw [HYe.out, HQ.out]; exact HO.out, by rw [HQ.out]; exact HB.out⟩
set_option maxRecDepth 100000 in
set_option maxHeartbeats 8000000 in
theorem lay8_any (n el : Int) (ps : List Pt) (va : Option Addr) (vc : Nat) (X : List Ex) (ax : Option Addr) (cx : Nat) (w : World) (hXl : X.length ≤ 10000000000000) (hbd : Hid (∀ x ∈ X, XOk x)) (i : Nat) (hiX : i ≤ X.length) (hok : Hid (tyOk ⟨8, n, el, ps⟩ i = true)) (hP : Hid (PRow w va ps)) (hX : Hid (XRow w ax X)) :
    Calls Try.prog 22 #[.agg #[.int .i64 8, .int .i64 n, .int .i64 el, .slice va ps.length vc], .slice ax X.length cx] w fun e w' => LayTo (layP X ⟨8, n, el, ps⟩) w e w' := by
  obtain ⟨w1, hw1⟩ : ∃ wx, wx = w.alloc (.cells #[.int .i64 8, .int .i64 n, .int .i64 el, .slice va ps.length vc] 43) := ⟨_, rfl⟩
  obtain ⟨w2, hw2⟩ : ∃ wx, wx = w1.alloc (.cells #[.int .i64 0, .slice none 0 0] 70) := ⟨_, rfl⟩
  obtain ⟨w3, hw3⟩ : ∃ wx, wx = w2.alloc (.cells #[.int .i64 0, .slice none 0 0] 70) := ⟨_, rfl⟩
  have HS := hide_ (lys_start w #[.int .i64 8, .int .i64 n, .int .i64 el, .slice va ps.length vc] hw1 hw2 hw3)
  have HY := hide_ (rfl : layP X ⟨8, n, el, ps⟩ = layP X ⟨8, n, el, ps⟩)
  obtain ⟨y, hy⟩ : ∃ y, layP X ⟨8, n, el, ps⟩ = y := ⟨_, rfl⟩
  rw [hy]
  have HYd := hide_ hy
  have t0 := HS.out.ty.cell 0; have t1 := HS.out.ty.cell 1; have t2 := HS.out.ty.cell 2; have t3 := HS.out.ty.cell 3
  simp at t0 t1 t2 t3
  obtain ⟨q, hq⟩ : ∃ q, w.heap.size = q := ⟨_, rfl⟩
  clear hy HY
  go_enter Try.func22, Try.ntmps22
  go_upto_region 2 with fail
  rw [← hw1, ← hw2, ← hw3]
  rw [hq] at HS t0 t1 t2 t3
  have HQ := hide_ hq
  clear hw1 hw2 hw3 hq
  have HYe0 : Hid (y = rowP X ps) := hide_ (by rw [← HYd.out]; simp [layP])
  have hps := tyOk_len hok.out
  simp only at hps
  obtain ⟨TC, hTC⟩ : ∃ TC, TC = [Value.int .i64 8, Value.int .i64 n, Value.int .i64 el, Value.slice va ps.length vc] := ⟨_, rfl⟩
  have HS0 : Hid (LyS w w3 q TC 0 (.slice none 0 0) []) := hide_ (by rw [hTC]; exact HS.out)
  clear HYd HS hTC
  go_wp2_with fail
  go_loopw [17] (fun x17 wr => ∃ (m : Nat) (z : Int) (v : Value) (l : List Sl), m ≤ ps.length ∧ x17 = .int .i64 (m : Int) ∧ Hid (rowP X (ps.take m) = ⟨z, l⟩) ∧ Hid (LyS w wr q TC z v l)) (fun x17 _ => ps.length - (intOf x17).toNat)
  case atStart => exact ⟨0, 0, _, [], Nat.zero_le _, rfl, hide_ rfl, HS0⟩
  case round =>
    obtain ⟨m, z, v, l, hm, rfl, HR, HS⟩ := hrel
    generalize wr = w3 at *
    clear HS0 t0 t1 t2 t3
    by_cases hlt : m < ps.length
    · have hlt' : (m : Int) < ps.length := by omega
      have hww : Below w.heap.size w w3 := by have := HS.out.below; rw [← HQ.out] at this; exact this
      obtain ⟨bp, op, rfl, hbp, hcp⟩ := (hP.out.later hww).open (by omega)
      have hx : ps[m]? = some (ps[m]'hlt) := List.getElem?_eq_getElem hlt
      have hty := tyOk_part hok.out (j := m) (p := ps[m]'hlt) hx
      have hcx := hcp m _ hx
      have hsc := rowP_succ (X := X) hx
      rw [HR.out] at hsc
      have hrl := rowP_len X (ps.take m)
      have hrb := rowP_bd X (ps.take m)
      rw [HR.out] at hrl hrb
      simp only [List.length_take] at hrl hrb
      have hll : l.length ≤ 64 := by omega
      generalize ps[m]'hlt = p at *
      obtain ⟨pl, pg, py⟩ := p
      simp only at hty hsc
      have i0 := hcx 0 (by decide); have i1 := hcx 1 (by decide); have i2 := hcx 2 (by decide)
      simp [ptc] at i0 i1 i2
      obtain ⟨j, hj⟩ : ∃ j : Nat, py = (j : Int) := ⟨py.toNat, by omega⟩
      subst hj
      have hjX : j < X.length := by omega
      have hjX' : (j : Int) < X.length := by omega
      have hxj := exAt_at hjX
      have HXo := hide_ (XOk.at hbd.out (j : Int))
      obtain ⟨bx, ox, rfl, hbx, hcx2⟩ := hX.out.open (by omega)
      obtain ⟨s, hs⟩ : ∃ s, slotP (exAt X (j : Int)) z = s := ⟨_, rfl⟩
      have HCs : Hid (∀ w', Calls Try.prog 50 #[.agg #[.bool (exAt X (j : Int)).f, .int .i64 (exAt X (j : Int)).l, .int .i64 (exAt X (j : Int)).m, .int .i64 (exAt X (j : Int)).d], .int .i64 z] w' fun e w2 => e = .returned (slv s) ∧ Below w'.heap.size w' w2) := hide_ (fun w' => by have h := slotOf_any (exAt X (j : Int)) z w'; rwa [hs] at h)
      have hsb := slotP_bd HXo.out z
      have HXc : Hid (∀ w', Below w.heap.size w w' → ∀ m, m < 4 → w'.cell? ⟨bx, ox + j * 4 + m, none⟩ = (exc (exAt X (j : Int)))[m]?) := hide_ (fun w' hb m hm => (hb.cell (p := ⟨bx, ox + j * 4 + m, none⟩) hbx).trans (hcx2 j _ hxj m hm))
      simp only [addF] at hsc
      rw [hs] at hsb hsc
      generalize exAt X (j : Int) = xe at *
      obtain ⟨xf, xl, xm, xd⟩ := xe
      obtain ⟨sa, sv, ss⟩ := s
      simp only at hsc hsb HCs HXc
      obtain ⟨pz, hpz⟩ : ∃ pz, plus2 z ss = pz := ⟨_, rfl⟩
      have HCt : Hid (∀ w', Calls Try.prog 51 #[.int .i64 z, .int .i64 ss] w' fun e w2 => e = .returned (.int .i64 pz) ∧ w' = w2) := hide_ (fun w' => by have h := lplus_any z ss w' hrb.1 hrb.2 hsb.1 hsb.2; rwa [hpz] at h)
      rw [hpz] at hsc
      have HSc := hide_ hsc
      have kp := Blk.newA w3 #[.string pl, .int .i64 pg, .int .i64 (j : Int)] 58
      have hB4 := below1 w3 (.cells #[.string pl, .int .i64 pg, .int .i64 (j : Int)] 58)
      obtain ⟨w4, hw4⟩ : ∃ wx, wx = w3.alloc (.cells #[.string pl, .int .i64 pg, .int .i64 (j : Int)] 58) := ⟨_, rfl⟩
      rw [← hw4] at kp hB4
      have HS4 := hide_ (HS.out.later hB4)
      have HKP := hide_ kp
      have Hlt : Hid (∀ k, v.ownBlock = some k → k < w4.heap.size) := hide_ (fun k hk => (HS4.out.own.lies hk).2)
      have HSS : Hid (∀ w', Below w4.heap.size w4 w' → w'.cell? ⟨q + 1 + 1, 0, none⟩ = some (.int .i64 z) ∧ w'.cell? ⟨w3.heap.size, 2, none⟩ = some (.int .i64 (j : Int)) ∧ w'.cell? ⟨bx, ox + j * 4, none⟩ = some (.bool xf) ∧ w'.cell? ⟨bx, ox + j * 4 + 1, none⟩ = some (.int .i64 xl) ∧ w'.cell? ⟨bx, ox + j * 4 + 2, none⟩ = some (.int .i64 xm) ∧ w'.cell? ⟨bx, ox + j * 4 + 3, none⟩ = some (.int .i64 xd)) := hide_ (fun w' hb => by
        have h := HS4.out.later hb
        have hw : Below w.heap.size w w' := by have := h.below; rw [← HQ.out] at this; exact this
        have c0 := HXc.out w' hw 0 (by decide); have c1 := HXc.out w' hw 1 (by decide); have c2 := HXc.out w' hw 2 (by decide); have c3 := HXc.out w' hw 3 (by decide)
        simp [exc] at c0 c1 c2 c3
        have u := h.out.cell 0
        have t := (HKP.out.later hb).cell 2
        simp at u t
        exact ⟨u, t, c0, c1, c2, c3⟩)
      obtain ⟨av, cv, hav, -⟩ := HS.out.own.row
      subst hav
      clear hcp hx hcx hsc hrl hxj hcx2 hs hpz kp hB4 hww HXc hty
      go_upto_region 7 with fail
      rw [← hw4]
      clear hw4 i0 i1 i2
      refine wp_region_last 9 (fun w' => w'.cell? ⟨q + 1 + 1, 0, none⟩ = some (.int .i64 z) ∧ w'.cell? ⟨w3.heap.size, 2, none⟩ = some (.int .i64 (j : Int)) ∧ w'.cell? ⟨bx, ox + j * 4, none⟩ = some (.bool xf) ∧ w'.cell? ⟨bx, ox + j * 4 + 1, none⟩ = some (.int .i64 xl) ∧ w'.cell? ⟨bx, ox + j * 4 + 2, none⟩ = some (.int .i64 xm) ∧ w'.cell? ⟨bx, ox + j * 4 + 3, none⟩ = some (.int .i64 xd)) (by kernel_rfl) (HSS.out _ ((Below.refl w4.heap.size w4).drew)) (fun hHeld => ?_)
      refine wpAnyF_take [9] (by kernel_rfl) (i := 0) (v := ?vs1) rfl (by kernel_rfl) (by kernel_rfl) (by kernel_rfl) (fun _ _ _ h => h) (Or.inl ⟨by kernel_rfl, ?hys1⟩) hHeld ?rests1
      case hys1 => intro w' hSw; (try dsimp only at hSw); go_simp; try with_reducible rfl
      simp only [Act.put]
      refine wpAnyF_take [9] (by kernel_rfl) (i := 1) (v := ?vs2) rfl (by kernel_rfl) (by kernel_rfl) (by kernel_rfl) (fun _ _ _ h => h) (Or.inl ⟨by kernel_rfl, ?hys2⟩) hHeld ?rests2
      case hys2 => intro w' hSw; (try dsimp only at hSw); go_simp; try with_reducible rfl
      simp only [Act.put]
      refine wpAnyF_take [9] (by kernel_rfl) (i := 2) (v := ?vs3) rfl (by kernel_rfl) (by kernel_rfl) (by kernel_rfl) (fun _ _ _ h => h) (Or.inl ⟨by kernel_rfl, ?hys3⟩) hHeld ?rests3
      case hys3 => intro w' hSw; (try dsimp only at hSw); go_simp; try with_reducible rfl
      simp only [Act.put]
      refine wpAnyF_take [9] (by kernel_rfl) (i := 3) (v := ?vs4) rfl (by kernel_rfl) (by kernel_rfl) (by kernel_rfl) (fun _ _ _ h => h) (Or.inl ⟨by kernel_rfl, ?hys4⟩) hHeld ?rests4
      case hys4 => intro w' hSw; (try dsimp only at hSw); go_simp; try with_reducible rfl
      simp only [Act.put]
      refine wpAnyF_take [9] (by kernel_rfl) (i := 4) (v := ?vs5) rfl (by kernel_rfl) (by kernel_rfl) (by kernel_rfl) (fun _ _ _ h => h) (Or.inl ⟨by kernel_rfl, ?hys5⟩) hHeld ?rests5
      case hys5 => intro w' hSw; (try dsimp only at hSw); go_simp; try with_reducible rfl
      simp only [Act.put]
      refine wpAnyF_take [9] (by kernel_rfl) (i := 5) (v := ?vs6) rfl (by kernel_rfl) (by kernel_rfl) (by kernel_rfl) (fun _ _ _ h => h) (Or.inl ⟨by kernel_rfl, ?hys6⟩) hHeld ?rests6
      case hys6 => intro w' hSw; (try dsimp only at hSw); go_simp; try with_reducible rfl
      simp only [Act.put]
      refine wpAnyF_take [9] (by kernel_rfl) (i := 6) (v := ?vs7) rfl (by kernel_rfl) (by kernel_rfl) (by kernel_rfl) (fun _ _ _ h => h) (Or.inl ⟨by kernel_rfl, ?hys7⟩) hHeld ?rests7
      case hys7 => intro w' hSw; (try dsimp only at hSw); go_simp; try with_reducible rfl
      simp only [Act.put]
      refine wpAnyF_ready (rs := [7, 8]) (by kernel_rfl) (by simp) ?_
      refine AllReadyF.cons rfl (fun K hK => ?_) ?_
      · go_simp
        refine (HCs.out _).mono ?_
        rintro e w5 ⟨rfl, hB5⟩
        dsimp only
        have b45 : Below w4.heap.size w4 w5 := below_to ((Below.refl w4.heap.size w4).drew) hB5
        have HB45 := hide_ b45
        have hg5 : w4.heap.size ≤ w5.heap.size := b45.size
        clear hB5 b45
        refine hK.out _ _ (HSS.out _ HB45.out) (fun hHeld => ?_)
        clear hK K
        refine wpAnyF_ready (rs := [8]) (by kernel_rfl) (by simp) ?_
        refine AllReadyF.cons rfl (fun K hK => ?_) AllReadyF.nil
        go_simp
        have k6 := Blk.newA w5 #[.int .i64 sa, .bool sv, .int .i64 ss] 77
        have b56 := below1 w5 (.cells #[.int .i64 0, .bool false, .int .i64 0] 77)
        have b46 := below_to HB45.out (below1 w5 (.cells #[.int .i64 sa, .bool sv, .int .i64 ss] 77))
        have HB56 := hide_ (below_to HB45.out b56)
        obtain ⟨w6, hw6⟩ : ∃ wx, wx = w5.alloc (.cells #[.int .i64 sa, .bool sv, .int .i64 ss] 77) := ⟨_, rfl⟩
        rw [← hw6] at k6 b46
        obtain ⟨gS, hgS⟩ : ∃ g, w5.heap.size = g := ⟨_, rfl⟩
        have hgl : w4.heap.size ≤ gS := by rw [← hgS]; exact hg5
        rw [hgS] at k6
        have K6 := hide_ k6
        have HB6 := hide_ b46
        have Hgs := hide_ hgS
        clear k6 b56 b46 hgS
        refine hK.out _ _ (HSS.out _ HB56.out) (fun hHeld => ?_)
        clear hK K
        refine wpAnyF_ready (rs := [9]) (by kernel_rfl) (by simp) ?_
        refine AllReadyF.last rfl (fun K hK => ?_)
        simp only [slv]
        go_simp
        refine hK.out _ _ ?_
        clear hK K
        refine wpAnyF_done (by kernel_rfl) ?_ _
        rw [← hw6]
        have hgS := Hgs.out
        try rw [hgS]
        clear hw6 hgS Hgs HSS hHeld HCs
        have HS6 := hide_ (HS4.out.later HB6.out)
        obtain ⟨g, cap, w7, hrun, hb7, hS7, hk7⟩ := HS6.out.step ⟨sa, sv, ss⟩ (by omega) K6.out (fun e => by have := Hlt.out _ e; omega)
        have HRun := hide_ hrun
        have u1 := HS6.out.out.cell 1
        have s0 := K6.out.cell 0; have s1 := K6.out.cell 1; have s2 := K6.out.cell 2
        have v1 := hb7.cell 1
        have vf := fun i => hb7.frozen i
        simp at u1 s0 s1 s2 v1
        obtain ⟨w8, hw8⟩ : ∃ wx, wx = w7.setCell ⟨q + 1 + 1, 1, none⟩ (.slice (some ⟨g, 0, none⟩) (l.length + 1) cap) := ⟨_, rfl⟩
        rw [← hw8] at hS7 hk7
        have HS8 := hide_ hS7
        have HK8 := hide_ hk7
        have a2 := hk7.cell 2
        have b0 := hS7.out.cell 0
        have bf := fun i => HS8.out.out.frozen i
        simp [slc] at a2 b0
        have HS9 := hide_ (HS8.out.size pz)
        clear hrun hb7 hS7 hk7
        go_upto_region 9 with (first | (at_builtin; refine wpList_append_run rfl (.tmp 30) (.tmp 32) 68 68 rfl rfl rfl HRun.out ?_; clear HRun) | fail)
        rw [← hw8]
        clear hw8
        go_wp2_with fail
        refine (HCt.out _).mono ?_
        rintro e w9 ⟨rfl, rfl⟩
        go_wp2_with fail
        go_roundw
        case rel => exact ⟨m + 1, pz, _, l ++ [⟨sa, sv, ss⟩], by omega, by go_num, HSc, HS9⟩
        case measure => simp [intOf]; omega
      refine AllReadyF.cons rfl (fun K hK => ?_) AllReadyF.nil
      go_simp
      refine hK.out _ _ (HSS.out _ (below_to ((Below.refl w4.heap.size w4).drew) (below1 w4.drew _))) (fun hHeld => ?_)
      clear hK K
      refine wpAnyF_ready (rs := [7]) (by kernel_rfl) (by simp) ?_
      refine AllReadyF.cons rfl (fun K hK => ?_) AllReadyF.nil
      go_simp
      refine (HCs.out _).mono ?_
      rintro e w5 ⟨rfl, hB5⟩
      dsimp only
      have b45 : Below w4.heap.size w4 w5 := below_to (below_to ((Below.refl w4.heap.size w4).drew) (below1 w4.drew _)) hB5
      have k5 : Blk w5 w4.heap.size 77 [.int .i64 0, .bool false, .int .i64 0] := (Blk.newA w4.drew #[.int .i64 0, .bool false, .int .i64 0] 77).later hB5
      have HB45 := hide_ b45
      have f5 := fun i => k5.frozen i
      have c50 := k5.cell 0; have c51 := k5.cell 1; have c52 := k5.cell 2
      simp at c50 c51 c52
      obtain ⟨w6, hw6⟩ : ∃ wx, wx = ((w5.setCell ⟨w4.heap.size, 0, none⟩ (.int .i64 sa)).setCell ⟨w4.heap.size, 1, none⟩ (.bool sv)).setCell ⟨w4.heap.size, 2, none⟩ (.int .i64 ss) := ⟨_, rfl⟩
      have k6 := wr3 k5 (.int .i64 sa) (.bool sv) (.int .i64 ss)
      have b46 := below_wr3 b45 w4.heap.size (Nat.le_refl _) (.int .i64 sa) (.bool sv) (.int .i64 ss)
      rw [← hw6] at k6 b46
      obtain ⟨gS, hgS⟩ : ∃ g, w4.heap.size = g := ⟨_, rfl⟩
      have hgl : w4.heap.size ≤ gS := Nat.le_of_eq hgS
      rw [hgS] at k6
      have K6 := hide_ k6
      have HB6 := hide_ b46
      have Hgs := hide_ hgS
      clear b45 hB5 k5 k6 b46 hgS
      refine hK.out _ _ (HSS.out _ HB45.out) (fun hHeld => ?_)
      clear hK K
      refine wpAnyF_ready (rs := [9]) (by kernel_rfl) (by simp) ?_
      refine AllReadyF.last rfl (fun K hK => ?_)
      simp only [slv]
      go_simp
      refine hK.out _ _ ?_
      clear hK K
      refine wpAnyF_done (by kernel_rfl) ?_ _
      rw [← hw6]
      have hgS := Hgs.out
      try rw [hgS]
      clear hw6 hgS Hgs HSS hHeld HCs
      have HS6 := hide_ (HS4.out.later HB6.out)
      obtain ⟨g, cap, w7, hrun, hb7, hS7, hk7⟩ := HS6.out.step ⟨sa, sv, ss⟩ (by omega) K6.out (fun e => by have := Hlt.out _ e; omega)
      have HRun := hide_ hrun
      have u1 := HS6.out.out.cell 1
      have s0 := K6.out.cell 0; have s1 := K6.out.cell 1; have s2 := K6.out.cell 2
      have v1 := hb7.cell 1
      have vf := fun i => hb7.frozen i
      simp at u1 s0 s1 s2 v1
      obtain ⟨w8, hw8⟩ : ∃ wx, wx = w7.setCell ⟨q + 1 + 1, 1, none⟩ (.slice (some ⟨g, 0, none⟩) (l.length + 1) cap) := ⟨_, rfl⟩
      rw [← hw8] at hS7 hk7
      have HS8 := hide_ hS7
      have HK8 := hide_ hk7
      have a2 := hk7.cell 2
      have b0 := hS7.out.cell 0
      have bf := fun i => HS8.out.out.frozen i
      simp [slc] at a2 b0
      have HS9 := hide_ (HS8.out.size pz)
      clear hrun hb7 hS7 hk7
      go_upto_region 9 with (first | (at_builtin; refine wpList_append_run rfl (.tmp 30) (.tmp 32) 68 68 rfl rfl rfl HRun.out ?_; clear HRun) | fail)
      rw [← hw8]
      clear hw8
      go_wp2_with fail
      refine (HCt.out _).mono ?_
      rintro e w9 ⟨rfl, rfl⟩
      go_wp2_with fail
      go_roundw
      case rel => exact ⟨m + 1, pz, _, l ++ [⟨sa, sv, ss⟩], by omega, by go_num, HSc, HS9⟩
      case measure => simp [intOf]; omega
    · obtain rfl : m = ps.length := by omega
      have HYe : Hid (y = ⟨z, l⟩) := hide_ (by have h := HR.out; rw [List.take_length] at h; rw [HYe0.out, h])
      obtain ⟨av, cv, hav, -⟩ := HS.out.own.row
      subst hav
      have LS := HS
      have o0 := LS.out.out.cell 0; have o1 := LS.out.out.cell 1
      have r0 := LS.out.res.cell 0; have r1 := LS.out.res.cell 1
      have rf := fun i => LS.out.res.frozen i
      simp at o0 o1 r0 r1
      obtain ⟨hK, hO, hB⟩ := LS.out.end_
      have HK := hide_ hK
      have HO := hide_ hO
      have HB := hide_ hB
      clear hK hO hB
      go_wp2
      refine retL rfl rfl HK.out ⟨_, by rw [HYe.out], by rw [HYe.out, HQ.out]; exact HO.out, by rw [HQ.out]; exact HB.out⟩
theorem layoutOf_any (k n el : Int) (ps : List Pt) (va : Option Addr) (vc : Nat) (X : List Ex) (ax : Option Addr) (cx : Nat) (w : World) (hXl : X.length ≤ 10000000000000) (hbd : Hid (∀ x ∈ X, XOk x)) (i : Nat) (hiX : i ≤ X.length) (hok : Hid (tyOk ⟨k, n, el, ps⟩ i = true)) (hP : Hid (PRow w va ps)) (hX : Hid (XRow w ax X)) :
    Calls Try.prog 22 #[.agg #[.int .i64 k, .int .i64 n, .int .i64 el, .slice va ps.length vc], .slice ax X.length cx] w fun e w' => LayTo (layP X ⟨k, n, el, ps⟩) w e w' := by
  by_cases h8 : k = 8
  · subst h8; exact lay8_any n el ps va vc X ax cx w hXl hbd i hiX hok hP hX
  · by_cases h4 : k = 4
    · subst h4; exact lay4_any n el ps va vc X ax cx w hXl hbd i hiX hok hP hX
    · by_cases h5 : k = 5
      · subst h5; exact lay5_any n el ps va vc X ax cx w hXl hbd i hiX hok hP hX
      · exact lay0_any k n el ps va vc X ax cx w hXl hbd i hiX hok hP hX (by simpa using h8) (by simpa using h4) (by simpa using h5)
end Go.Proofs.Ytncndgfaalojpaa
