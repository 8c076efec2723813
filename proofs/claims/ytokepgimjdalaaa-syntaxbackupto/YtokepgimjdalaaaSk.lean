/- node's walk, one level up. -/
import Derived.Test.YtokepgimjdalaaaSj
namespace Go.Proofs.Ytokepgimjdalaaa
open Go.RowKit
set_option linter.unusedVariables false

theorem own_slice {w : World} {B n c : Nat} {e : TypeId} {v : Value} {xs : List Value} (h : w.ownsRow B e c v n xs) : ∃ a cap, v = .slice a n cap := by
  rcases h.2 with ⟨rfl, hn⟩ | ⟨g, cap, cur, rfl, _⟩
  · exact ⟨none, 0, by rw [hn]⟩
  · exact ⟨_, _, rfl⟩
theorem Mv.over {g : Nat} {v v' : Value} {w W W' : World} (h : Mv g v v' w W) (hu : Upd (fun k => v'.ownBlock = some k) W W') : Mv g v v' w W' := h.trans ⟨hu.mono (fun _ _ h => .inr h), fun _ h => .inl h⟩
theorem Mv.drewM {g : Nat} {v v' : Value} {w W : World} (h : Mv g v v' w W) : Mv g v v' w W.drew := ⟨h.1.drew, h.2⟩
theorem cell_al (w : World) (o : Obj) (b i : Nat) (h : b < w.heap.size) : (w.alloc o).cell? ⟨b, i, none⟩ = w.cell? ⟨b, i, none⟩ := World.cell?_of_block (Below.heap_alloc w o b h)
set_option maxRecDepth 100000 in
set_option maxHeartbeats 8000000 in
theorem node_succ (f : Nat) (hN : Hid (NodeOk f)) : NodeOk (f + 1) := by
  intro w B g tv v ts L p N x d HP hl hd
  obtain ⟨r, hr⟩ : ∃ r, nodeP (ts.map core) (f + 1) x p = r := ⟨_, rfl⟩
  have HR := hide_ hr
  rw [hr]
  clear hr
  have HTk : Hid (∀ W, Hid (Par W B g tv ts L p v N) → Calls Try.prog 39 #[.pointer (some ⟨g, 0, none⟩)] W fun e w' => e = .returned (tkv (tkAt ts L p)) ∧ Below W.heap.size W w') := fun W h => token_any h
  have HQ : Hid (core (tkAt ts L p) = qAt (ts.map core) p) := (core_at ts L p).symm
  have HPl : Hid (plc ts L p = (tkAt ts L p).a) := rfl
  have HLt : Hid ((tkAt ts L p).t ≠ ⟨#[]⟩ → p < ts.length) := fun h => tk_lt HP.out.2.2.2.2.1 (.inl h)
  obtain ⟨T, hT⟩ : ∃ T, tkAt ts L p = T := ⟨_, rfl⟩
  rw [hT] at HTk HQ HPl HLt
  clear hT
  have HBg : Hid (∀ W, Calls Try.prog 51 #[.string T.t] W fun e w' => e = .returned (.tuple #[.int .i64 (beg T.t).1, .int .i64 (beg T.t).2]) ∧ W = w') := fun W => begins_any T.t W
  have HBe : Hid (beg T.t = beg (qAt (ts.map core) p).t) := by show _ = _; rw [← HQ.out]; rfl
  have HNe : Hid ((beg T.t).1 ≠ 0 → p < ts.length) := fun h => HLt.out (fun e => h (by rw [e]; decide))
  have HQt : Hid (T.t = (qAt (ts.map core) p).t) := by show _ = _; rw [← HQ.out]; rfl
  obtain ⟨kk, nn, hkn⟩ : ∃ kk nn, beg T.t = (kk, nn) := ⟨_, _, rfl⟩
  rw [hkn] at HBg HBe HNe
  have HKN := hide_ hkn
  clear hkn
  obtain ⟨X, hX⟩ : ∃ X, ndP ts L x = X := ⟨_, rfl⟩
  have HXX := hide_ hX
  rw [hX]
  clear hX
  have HPw : Hid (Par (((w.alloc (.cells #[.pointer (some ⟨g, 0, none⟩)] 71)).alloc (.cells #[.int .i64 X.k, .int .i64 X.n, .string X.name, .string X.label, .int .i64 X.tag, .int .i64 X.kids, .int .i64 X.a] 40)).alloc (.cells #[.int .i64 (d : Int)] 3)) B g tv ts L p v N) := hide_ (HP.out.later (((((Below.refl w.heap.size w).alloc (Nat.le_refl _) _).alloc (by simp) _).alloc (by simp <;> omega) _)))
  have hwl := HP.out.1.lt
  unfold ndv
  go_enter Try.func48, Try.ntmps48
  go_wp2_with fail
  refine (HTk.out _ HPw).mono ?_; rintro e w2 ⟨rfl, hB2⟩
  obtain ⟨hF, hM⟩ := fr_begin HP.out hB2 T
  have hsz : w.heap.size + 3 ≤ w2.heap.size := by have := hB2.size; simp at this; omega
  clear hB2 HPw HTk
  have HFr := hide_ hF
  have HMv := hide_ hM
  clear hF hM
  obtain ⟨w3, hw3⟩ : ∃ w3, w3 = w2.alloc (.cells #[.int .i64 T.k, .string T.t, .int .i64 T.n, .int .i64 T.a, .int .i64 T.e] 42) := ⟨_, rfl⟩
  rw [← hw3] at HFr HMv
  unfold tkv
  have f1 := HFr.out.2.2.2.1.cell 1
  simp [tkc] at f1
  go_upto_region 2 with fail
  rw [← hw3]
  clear hw3
  have x0 := HFr.out.2.2.1.cell 0; have x1 := HFr.out.2.2.1.cell 1
  have z0 := HFr.out.2.2.1.frozen 0; have z1 := HFr.out.2.2.1.frozen 1
  simp [ndc] at x0 x1
  go_wp2_with fail
  refine (HBg.out w3).mono ?_; rintro e w4 ⟨rfl, rfl⟩
  have HF4 := hide_ ((HFr.out.set 0 (.int .i64 kk) { X with k := kk } rfl).set 1 (.int .i64 nn) { X with k := kk, n := nn } rfl)
  have HM4 := hide_ ((HMv.out.setx ⟨w.heap.size + 1, 0, none⟩ (.int .i64 kk) (by show w.heap.size ≤ w.heap.size + 1; omega)).setx ⟨w.heap.size + 1, 1, none⟩ (.int .i64 nn) (by show w.heap.size ≤ w.heap.size + 1; omega))
  have b0 := HFr.out.2.1.1.cell 0
  simp at b0
  have n1 : ¬ w.heap.size = w.heap.size + 1 := by omega
  by_cases h0 : kk = 0
  · subst h0
    have HPt := hide_ HF4.out.1
    go_wp2_with fail
    refine (take_any HPt false (fun h => by cases h)).mono ?_; rintro e w5 (⟨i5, hj, rfl, HP5, HU⟩ | ⟨y, hy, rfl, HU⟩)
    · exfalso; cases hj
    · obtain rfl : (60, p) = y := by injection (show (Except.error (60, p) : PR Nat) = .error y from hy)
      clear hy
      unfold Flt
      go_wp2
      exact ⟨rfl, .inr ⟨(60, p), by rw [← HR.out]; unfold nodeP; rw [← HBe.out]; rfl, rfl, hide_ (HM4.out.upd (Mv.of HU.out v).1)⟩⟩
  have hb0 : (kk != 0) = true := by simpa using h0
  have HPt := hide_ HF4.out.1
  have hpl : p < ts.length := HNe.out h0
  go_wp2_with fail
  refine (take_any HPt true (fun _ => hpl)).mono ?_; rintro e w5 (⟨i5, hj, rfl, HP5, HU⟩ | ⟨y, hy, rfl, HU⟩)
  case inr => exfalso; cases hy
  have hi5 : i5 = p + 1 := by injection hj with hj; exact hj.symm
  subst hi5
  have HF5 := hide_ (HF4.out.mv (Mv.of HU.out v) HP5.out)
  have HM5 := hide_ (HM4.out.then HU.out)
  clear hj HU HF4 HM4 HFr HMv x0 x1 z0 z1 f1 b0 HP5 HPt hb0
  have g0 := HF5.out.2.1.2.cell 0
  have g3 := HF5.out.1.1.cell 3
  simp at g0 g3
  have hd16 : (d : Int) ≤ 16 := by omega
  have hd16' : ¬ (16 : Int) < d := by omega
  have hlt := HP.out.2.2.2.2.2
  obtain ⟨va, vc, hva⟩ := own_slice HF5.out.1.2.2.1
  have b0 := HF5.out.2.1.1.cell 0
  simp at b0
  have hN65 : N.length ≤ 65536 := by omega
  obtain ⟨gn, cap, w6, R6, U6, C6, P6⟩ := Par.push (w := w5.drew) (y := { X with k := kk, n := nn }) HF5.out.1 hN65
  have x0 := HF5.out.2.2.1.cell 0; have x1 := HF5.out.2.2.1.cell 1; have x2 := HF5.out.2.2.1.cell 2; have x3 := HF5.out.2.2.1.cell 3; have x4 := HF5.out.2.2.1.cell 4; have x5 := HF5.out.2.2.1.cell 5; have x6 := HF5.out.2.2.1.cell 6
  simp [ndc] at x0 x1 x2 x3 x4 x5 x6
  have HMa : Mv g v (.slice (some ⟨gn, 0, none⟩) (N.length + 1) cap) w5 (w6.setCell ⟨g, 3, none⟩ (.slice (some ⟨gn, 0, none⟩) (N.length + 1) cap)) :=
    ⟨(Upd.mono ((Upd.refl (fun k => v.ownBlock = some k) w5).drew.trans U6 (fun _ _ h => h)) (fun _ _ h => .inr h)).set _ _ (.inl (.inl rfl)), fun k hk => by
      have e := own_is hk
      subst e
      exact C6⟩
  have HF6 := hide_ (HF5.out.mv HMa P6)
  have HM6 := hide_ (HM5.out.trans HMa)
  have e1 : w6.cell? ⟨w.heap.size, 0, none⟩ = some (.pointer (some ⟨g, 0, none⟩)) := (World.cell?_of_block (w := w5) (U6.block _ HF5.out.2.1.1.lt (fun e => by
      obtain ⟨ys, hy⟩ := ownS_type HF5.out.1.2.2.1 e
      exact absurd (blk_type hy HF5.out.2.1.1) (by decide)))).trans b0
  have K6 : Blk w6 g 64 [tv, .int .i64 ((p + 1 : Nat) : Int), .int .i64 L, v] := (show Blk w5.drew g 64 [tv, .int .i64 ((p + 1 : Nat) : Int), .int .i64 L, v] from HF5.out.1.1).upd U6 (fun e => HF5.out.1.ne2 e rfl)
  have e2 := K6.cell 3
  have z2 := K6.frozen 3
  simp at e2
  have b0a : ∀ ob, (w5.alloc ob).cell? ⟨w.heap.size, 0, none⟩ = some (.pointer (some ⟨g, 0, none⟩)) := fun ob => (cell_al w5 ob _ _ HF5.out.2.1.1.lt).trans b0
  have g3a : ∀ ob, (w5.alloc ob).cell? ⟨g, 3, none⟩ = some v := fun ob => (cell_al w5 ob _ _ HF5.out.1.1.lt).trans g3
  have R7 : Hid ((Builtin.append_ #[36, 36] 36 #[v, .slice (some ⟨w5.heap.size, 0, none⟩) 1 1]).run Try.prog (w5.alloc (.cells #[.int .i64 kk, .int .i64 nn, .string X.name, .string X.label, .int .i64 X.tag, .int .i64 X.kids, .int .i64 X.a] 40)).drew = .ok (.slice (some ⟨gn, 0, none⟩) (N.length + 1) cap) w6) := R6
  clear R6 U6 C6 P6 HMa HF5 HM5 K6
  subst hva
  have hB5 := HF6.out.2.2.1.lt
  go_upto_region 7 with fail
  go_cut [40] from 33 to 42 (fun x40 wc => ∃ v6, Hid (Fr wc B g w.heap.size (w.heap.size + 1) (w.heap.size + 1 + 1) w2.heap.size tv ts L (p + 1) v6 (N ++ [{ X with k := kk, n := nn }]) { X with k := kk, n := nn } T d) ∧ Hid (Mv g (.slice va N.length vc) v6 w wc))
  case first =>
    go_wp2_with fail
    go_region_law (refine step_append_run rfl (.tmp 37) (.tmp 39) 36 36 rfl rfl rfl R7.out ?_)
    all_goals
      go_wp2
      go_meet
      case rel => exact ⟨_, HF6, HM6⟩
  case rest =>
    clear HF6 HM6 R7 g3a e1 e2 z2 x0 x1 x2 x3 x4 x5 x6 b0 b0a g0 g3 hB5
    obtain ⟨v6, HF6, HM6⟩ := hcut
    have k0 := HF6.out.2.2.1.cell 0
    simp [ndc] at k0
    have HRb : Hid (r = bodyP (ts.map core) (nodeP (ts.map core) f) { x with k := kk, n := nn } p) := by
      show _ = _
      rw [← HR.out]
      unfold nodeP
      rw [← HBe.out, if_neg h0]
    have HY : Hid (∀ (a b : Int) (c : ByteArray) (e : Int), ndP ts L { x with k := a, n := b, name := c, kids := e } = { X with k := a, n := b, name := c, kids := e }) := fun a b c e => by rw [← HXX.out]; rfl
    have HYn : Hid (X.name = x.name ∧ X.kids = x.kids) := ⟨by rw [← HXX.out]; rfl, by rw [← HXX.out]; rfl⟩
    have hmf : ∀ (fn : Fn) (first cap : Array Value) (w : World), (Instr.makeFunc fn first cap).run Try.prog w = .ok (.func fn first cap) w := fun _ _ _ _ => rfl
    have HD : Hid ((d : Int) + 1 = ((d + 1 : Nat) : Int)) := by show _ = _; omega
    have hdf : d + 1 + f = 17 := by omega
    have b0 := HF6.out.2.1.1.cell 0
    have b1 := HF6.out.2.1.2.cell 0
    simp at b0 b1
    have HP6 := hide_ HF6.out.1
    have hl6 : (N ++ [({ X with k := kk, n := nn } : Nd)]).length ≤ p + 1 := by simp; omega
    by_cases h9 : kk = 9
    · subst h9
      have HF7 := hide_ (HF6.out.set 2 (.string T.t) { X with k := 9, n := nn, name := T.t } rfl)
      have HM7 := hide_ (HM6.out.setx ⟨w.heap.size + 1, 2, none⟩ (.string T.t) (by show w.heap.size ≤ w.heap.size + 1; omega))
      have t1 := HF6.out.2.2.2.1.cell 1
      have s2 := HF6.out.2.2.1.cell 2
      have q2 := HF6.out.2.2.1.frozen 2
      simp [tkc, ndc] at t1 s2
      go_upto_region 21 with fail
      clear t1 s2 q2 k0 b0 b1
      obtain ⟨W, hW⟩ : ∃ W, wc.setCell ⟨w.heap.size + 1, 2, none⟩ (.string T.t) = W := ⟨_, rfl⟩
      rw [hW] at HF7 HM7 ⊢
      obtain ⟨gz, cz, hvz, hgz, hcs, hfz, hov⟩ := Par.over HF7.out.1
      have p0 := HF7.out.2.1.1.cell 0
      have p3 := HF7.out.1.1.cell 3
      have y0 := HF7.out.2.2.1.cell 0; have y1 := HF7.out.2.2.1.cell 1; have y2 := HF7.out.2.2.1.cell 2; have y3 := HF7.out.2.2.1.cell 3; have y4 := HF7.out.2.2.1.cell 4; have y5 := HF7.out.2.2.1.cell 5; have y6 := HF7.out.2.2.1.cell 6
      simp [ndc] at p0 p3 y0 y1 y2 y3 y4 y5 y6
      rw [hvz] at p3
      obtain ⟨c0, hc0⟩ := hcs 0 (by decide); obtain ⟨c1, hc1⟩ := hcs 1 (by decide); obtain ⟨c2, hc2⟩ := hcs 2 (by decide); obtain ⟨c3, hc3⟩ := hcs 3 (by decide); obtain ⟨c4, hc4⟩ := hcs 4 (by decide); obtain ⟨c5, hc5⟩ := hcs 5 (by decide); obtain ⟨c6, hc6⟩ := hcs 6 (by decide)
      have z0 := hfz (N.length * 7); have z1 := hfz (N.length * 7 + 1); have z2 := hfz (N.length * 7 + 2); have z3 := hfz (N.length * 7 + 3); have z4 := hfz (N.length * 7 + 4); have z5 := hfz (N.length * 7 + 5); have z6 := hfz (N.length * 7 + 6)
      simp at hc0 hc1 hc2 hc3 hc4 hc5 hc6 z0 z1 z2 z3 z4 z5 z6
      obtain ⟨hP9, hU9⟩ := hov { X with k := 9, n := nn, name := T.t }
      have HP9 := hide_ (hP9.later ((Below.refl _ _).drew))
      have HM9 := hide_ ((HM7.out.over hU9).drewM)
      have hlz : (N.length : Int) < (N.length : Int) + 1 + ((([] : List Nd)).length : Int) := by omega
      have hlz2 : N.length < N.length + 1 + (([] : List Nd)).length := by omega
      clear hcs hfz hov hP9 hU9 hvz
      simp only [List.length_nil, Nat.add_zero, Int.natCast_zero, Int.add_zero] at hlz hlz2 p3
      go_wp2_with fail
      go_region
      go_wp2
      go_end0
      have HLs : Hid (N ++ ([{ x with k := 9, n := nn, name := T.t }]).map (ndP ts L) = N ++ { X with k := 9, n := nn, name := T.t } :: ([] : List Nd)) := by show _ = _; rw [← HXX.out]; rfl
      exact .inl ⟨[{ x with k := 9, n := nn, name := T.t }], p + 1, v6, by rw [HRb.out]; unfold bodyP; rw [if_pos rfl, ← HQt.out], rfl, hide_ (by rw [HLs.out]; exact ⟨HP9.out, by simp; omega⟩), HM9⟩
    by_cases h4 : kk = 4
    · subst h4
      go_wp2_with fail
      rw [HD.out]
      refine (items_any hN HP6 hl6 (d + 1) hdf).mono ?_; rintro e w7 (⟨M, n7, j7, v7, hj, rfl, HPx, HMx⟩ | ⟨y, hy, rfl, HU⟩)
      case inr =>
        have HJ := hide_ hy
        clear hy
        unfold Flt
        go_wp2
        exact ⟨rfl, .inr ⟨y, by rw [HRb.out]; unfold bodyP; rw [if_neg (by simp), if_pos (by simp), HJ.out]; rfl, rfl, hide_ (HM6.out.upd HU.out)⟩⟩
      have HJ := hide_ hj
      have HF7 := hide_ (((HF6.out.mv HMx.out HPx.out.1).set 1 (.int .i64 n7) { X with k := 4, n := n7 } rfl).set 5 (.int .i64 1) { X with k := 4, n := n7, kids := 1 } rfl)
      have HM7 := hide_ (((HM6.out.trans HMx.out).setx ⟨w.heap.size + 1, 1, none⟩ (.int .i64 n7) (by show w.heap.size ≤ w.heap.size + 1; omega)).setx ⟨w.heap.size + 1, 5, none⟩ (.int .i64 1) (by show w.heap.size ≤ w.heap.size + 1; omega))
      have hl7 := HPx.out.2
      have s1 := (HF6.out.mv HMx.out HPx.out.1).2.2.1.cell 1
      have q1 := (HF6.out.mv HMx.out HPx.out.1).2.2.1.frozen 1
      have s5 := (HF6.out.mv HMx.out HPx.out.1).2.2.1.cell 5
      have q5 := (HF6.out.mv HMx.out HPx.out.1).2.2.1.frozen 5
      simp [ndc] at s1 s5
      clear hj HPx HMx k0 b0 b1
      go_upto_region 21 with fail
      clear s1 q1 s5 q5
      obtain ⟨W, hW⟩ : ∃ W, (w7.setCell ⟨w.heap.size + 1, 1, none⟩ (.int .i64 n7)).setCell ⟨w.heap.size + 1, 5, none⟩ (.int .i64 1) = W := ⟨_, rfl⟩
      rw [hW] at HF7 HM7 ⊢
      rw [List.append_assoc, List.singleton_append] at HF7
      obtain ⟨gz, cz, hvz, hgz, hcs, hfz, hov⟩ := Par.over HF7.out.1
      have p0 := HF7.out.2.1.1.cell 0
      have p3 := HF7.out.1.1.cell 3
      have y0 := HF7.out.2.2.1.cell 0; have y1 := HF7.out.2.2.1.cell 1; have y2 := HF7.out.2.2.1.cell 2; have y3 := HF7.out.2.2.1.cell 3; have y4 := HF7.out.2.2.1.cell 4; have y5 := HF7.out.2.2.1.cell 5; have y6 := HF7.out.2.2.1.cell 6
      simp [ndc] at p0 p3 y0 y1 y2 y3 y4 y5 y6
      rw [hvz] at p3
      obtain ⟨c0, hc0⟩ := hcs 0 (by decide); obtain ⟨c1, hc1⟩ := hcs 1 (by decide); obtain ⟨c2, hc2⟩ := hcs 2 (by decide); obtain ⟨c3, hc3⟩ := hcs 3 (by decide); obtain ⟨c4, hc4⟩ := hcs 4 (by decide); obtain ⟨c5, hc5⟩ := hcs 5 (by decide); obtain ⟨c6, hc6⟩ := hcs 6 (by decide)
      have z0 := hfz (N.length * 7); have z1 := hfz (N.length * 7 + 1); have z2 := hfz (N.length * 7 + 2); have z3 := hfz (N.length * 7 + 3); have z4 := hfz (N.length * 7 + 4); have z5 := hfz (N.length * 7 + 5); have z6 := hfz (N.length * 7 + 6)
      simp at hc0 hc1 hc2 hc3 hc4 hc5 hc6 z0 z1 z2 z3 z4 z5 z6
      obtain ⟨hP9, hU9⟩ := hov { X with k := 4, n := n7, kids := 1 }
      have HP9 := hide_ (hP9.later ((Below.refl _ _).drew))
      have HM9 := hide_ ((HM7.out.over hU9).drewM)
      have hlz : (N.length : Int) < (N.length : Int) + 1 + ((M.map (ndP ts L)).length : Int) := by omega
      have hlz2 : N.length < N.length + 1 + (M.map (ndP ts L)).length := by omega
      clear hcs hfz hov hP9 hU9 hvz
      simp only [List.length_map] at hlz hlz2 p3
      go_wp2_with fail
      go_region
      go_wp2
      go_end0
      have HLs : Hid (N ++ ({ x with k := 4, n := n7, kids := 1 } :: M).map (ndP ts L) = N ++ { X with k := 4, n := n7, kids := 1 } :: M.map (ndP ts L)) := by show _ = _; rw [← HXX.out]; rfl
      exact .inl ⟨{ x with k := 4, n := n7, kids := 1 } :: M, j7, v7, by rw [HRb.out]; unfold bodyP; rw [if_neg (by simp), if_pos (by simp), HJ.out]; rfl, rfl, hide_ (by rw [HLs.out]; exact ⟨HP9.out, by have h8 := hl7; simp at h8 ⊢; omega⟩), HM9⟩
    by_cases h5 : kk = 5
    · subst h5
      go_wp2_with fail
      rw [HD.out]
      refine (items_any hN HP6 hl6 (d + 1) hdf).mono ?_; rintro e w7 (⟨M, n7, j7, v7, hj, rfl, HPx, HMx⟩ | ⟨y, hy, rfl, HU⟩)
      case inr =>
        have HJ := hide_ hy
        clear hy
        unfold Flt
        go_wp2
        exact ⟨rfl, .inr ⟨y, by rw [HRb.out]; unfold bodyP; rw [if_neg (by simp), if_pos (by simp), HJ.out]; rfl, rfl, hide_ (HM6.out.upd HU.out)⟩⟩
      have HJ := hide_ hj
      have HF7 := hide_ (((HF6.out.mv HMx.out HPx.out.1).set 1 (.int .i64 n7) { X with k := 5, n := n7 } rfl).set 5 (.int .i64 1) { X with k := 5, n := n7, kids := 1 } rfl)
      have HM7 := hide_ (((HM6.out.trans HMx.out).setx ⟨w.heap.size + 1, 1, none⟩ (.int .i64 n7) (by show w.heap.size ≤ w.heap.size + 1; omega)).setx ⟨w.heap.size + 1, 5, none⟩ (.int .i64 1) (by show w.heap.size ≤ w.heap.size + 1; omega))
      have hl7 := HPx.out.2
      have s1 := (HF6.out.mv HMx.out HPx.out.1).2.2.1.cell 1
      have q1 := (HF6.out.mv HMx.out HPx.out.1).2.2.1.frozen 1
      have s5 := (HF6.out.mv HMx.out HPx.out.1).2.2.1.cell 5
      have q5 := (HF6.out.mv HMx.out HPx.out.1).2.2.1.frozen 5
      simp [ndc] at s1 s5
      clear hj HPx HMx k0 b0 b1
      go_upto_region 21 with fail
      clear s1 q1 s5 q5
      obtain ⟨W, hW⟩ : ∃ W, (w7.setCell ⟨w.heap.size + 1, 1, none⟩ (.int .i64 n7)).setCell ⟨w.heap.size + 1, 5, none⟩ (.int .i64 1) = W := ⟨_, rfl⟩
      rw [hW] at HF7 HM7 ⊢
      rw [List.append_assoc, List.singleton_append] at HF7
      obtain ⟨gz, cz, hvz, hgz, hcs, hfz, hov⟩ := Par.over HF7.out.1
      have p0 := HF7.out.2.1.1.cell 0
      have p3 := HF7.out.1.1.cell 3
      have y0 := HF7.out.2.2.1.cell 0; have y1 := HF7.out.2.2.1.cell 1; have y2 := HF7.out.2.2.1.cell 2; have y3 := HF7.out.2.2.1.cell 3; have y4 := HF7.out.2.2.1.cell 4; have y5 := HF7.out.2.2.1.cell 5; have y6 := HF7.out.2.2.1.cell 6
      simp [ndc] at p0 p3 y0 y1 y2 y3 y4 y5 y6
      rw [hvz] at p3
      obtain ⟨c0, hc0⟩ := hcs 0 (by decide); obtain ⟨c1, hc1⟩ := hcs 1 (by decide); obtain ⟨c2, hc2⟩ := hcs 2 (by decide); obtain ⟨c3, hc3⟩ := hcs 3 (by decide); obtain ⟨c4, hc4⟩ := hcs 4 (by decide); obtain ⟨c5, hc5⟩ := hcs 5 (by decide); obtain ⟨c6, hc6⟩ := hcs 6 (by decide)
      have z0 := hfz (N.length * 7); have z1 := hfz (N.length * 7 + 1); have z2 := hfz (N.length * 7 + 2); have z3 := hfz (N.length * 7 + 3); have z4 := hfz (N.length * 7 + 4); have z5 := hfz (N.length * 7 + 5); have z6 := hfz (N.length * 7 + 6)
      simp at hc0 hc1 hc2 hc3 hc4 hc5 hc6 z0 z1 z2 z3 z4 z5 z6
      obtain ⟨hP9, hU9⟩ := hov { X with k := 5, n := n7, kids := 1 }
      have HP9 := hide_ (hP9.later ((Below.refl _ _).drew))
      have HM9 := hide_ ((HM7.out.over hU9).drewM)
      have hlz : (N.length : Int) < (N.length : Int) + 1 + ((M.map (ndP ts L)).length : Int) := by omega
      have hlz2 : N.length < N.length + 1 + (M.map (ndP ts L)).length := by omega
      clear hcs hfz hov hP9 hU9 hvz
      simp only [List.length_map] at hlz hlz2 p3
      go_wp2_with fail
      go_region
      go_wp2
      go_end0
      have HLs : Hid (N ++ ({ x with k := 5, n := n7, kids := 1 } :: M).map (ndP ts L) = N ++ { X with k := 5, n := n7, kids := 1 } :: M.map (ndP ts L)) := by show _ = _; rw [← HXX.out]; rfl
      exact .inl ⟨{ x with k := 5, n := n7, kids := 1 } :: M, j7, v7, by rw [HRb.out]; unfold bodyP; rw [if_neg (by simp), if_pos (by simp), HJ.out]; rfl, rfl, hide_ (by rw [HLs.out]; exact ⟨HP9.out, by have h8 := hl7; simp at h8 ⊢; omega⟩), HM9⟩
    by_cases h6 : kk = 6
    · subst h6
      go_wp2_with fail
      rw [HD.out]
      refine (option_any hN HP6 hl6 (d + 1) hdf).mono ?_; rintro e w7 (⟨M, j7, v7, hj, rfl, HPx, HMx⟩ | ⟨y, hy, rfl, HU⟩)
      case inr =>
        have HJ := hide_ hy
        clear hy
        unfold Flt
        go_wp2
        exact ⟨rfl, .inr ⟨y, by rw [HRb.out]; unfold bodyP; rw [if_neg (by simp), if_neg (by simp), if_pos (by simp), HJ.out]; rfl, rfl, hide_ (HM6.out.upd HU.out)⟩⟩
      have HJ := hide_ hj
      have HF7 := hide_ ((HF6.out.mv HMx.out HPx.out.1).set 5 (.int .i64 1) { X with k := 6, n := nn, kids := 1 } rfl)
      have HM7 := hide_ ((HM6.out.trans HMx.out).setx ⟨w.heap.size + 1, 5, none⟩ (.int .i64 1) (by show w.heap.size ≤ w.heap.size + 1; omega))
      have hl7 := HPx.out.2
      have s5 := (HF6.out.mv HMx.out HPx.out.1).2.2.1.cell 5
      have q5 := (HF6.out.mv HMx.out HPx.out.1).2.2.1.frozen 5
      simp [ndc] at s5
      clear hj HPx HMx k0 b0 b1
      go_upto_region 21 with fail
      clear s5 q5
      obtain ⟨W, hW⟩ : ∃ W, w7.setCell ⟨w.heap.size + 1, 5, none⟩ (.int .i64 1) = W := ⟨_, rfl⟩
      rw [hW] at HF7 HM7 ⊢
      rw [List.append_assoc, List.singleton_append] at HF7
      obtain ⟨gz, cz, hvz, hgz, hcs, hfz, hov⟩ := Par.over HF7.out.1
      have p0 := HF7.out.2.1.1.cell 0
      have p3 := HF7.out.1.1.cell 3
      have y0 := HF7.out.2.2.1.cell 0; have y1 := HF7.out.2.2.1.cell 1; have y2 := HF7.out.2.2.1.cell 2; have y3 := HF7.out.2.2.1.cell 3; have y4 := HF7.out.2.2.1.cell 4; have y5 := HF7.out.2.2.1.cell 5; have y6 := HF7.out.2.2.1.cell 6
      simp [ndc] at p0 p3 y0 y1 y2 y3 y4 y5 y6
      rw [hvz] at p3
      obtain ⟨c0, hc0⟩ := hcs 0 (by decide); obtain ⟨c1, hc1⟩ := hcs 1 (by decide); obtain ⟨c2, hc2⟩ := hcs 2 (by decide); obtain ⟨c3, hc3⟩ := hcs 3 (by decide); obtain ⟨c4, hc4⟩ := hcs 4 (by decide); obtain ⟨c5, hc5⟩ := hcs 5 (by decide); obtain ⟨c6, hc6⟩ := hcs 6 (by decide)
      have z0 := hfz (N.length * 7); have z1 := hfz (N.length * 7 + 1); have z2 := hfz (N.length * 7 + 2); have z3 := hfz (N.length * 7 + 3); have z4 := hfz (N.length * 7 + 4); have z5 := hfz (N.length * 7 + 5); have z6 := hfz (N.length * 7 + 6)
      simp at hc0 hc1 hc2 hc3 hc4 hc5 hc6 z0 z1 z2 z3 z4 z5 z6
      obtain ⟨hP9, hU9⟩ := hov { X with k := 6, n := nn, kids := 1 }
      have HP9 := hide_ (hP9.later ((Below.refl _ _).drew))
      have HM9 := hide_ ((HM7.out.over hU9).drewM)
      have hlz : (N.length : Int) < (N.length : Int) + 1 + ((M.map (ndP ts L)).length : Int) := by omega
      have hlz2 : N.length < N.length + 1 + (M.map (ndP ts L)).length := by omega
      clear hcs hfz hov hP9 hU9 hvz
      simp only [List.length_map] at hlz hlz2 p3
      go_wp2_with fail
      go_region
      go_wp2
      go_end0
      have HLs : Hid (N ++ ({ x with k := 6, n := nn, kids := 1 } :: M).map (ndP ts L) = N ++ { X with k := 6, n := nn, kids := 1 } :: M.map (ndP ts L)) := by show _ = _; rw [← HXX.out]; rfl
      exact .inl ⟨{ x with k := 6, n := nn, kids := 1 } :: M, j7, v7, by rw [HRb.out]; unfold bodyP; rw [if_neg (by simp), if_neg (by simp), if_pos (by simp), HJ.out]; rfl, rfl, hide_ (by rw [HLs.out]; exact ⟨HP9.out, by have h8 := hl7; simp at h8 ⊢; omega⟩), HM9⟩
    by_cases h7 : kk = 7
    · subst h7
      have HX6 := hide_ HF6.out.2.1
      go_wp2_with fail
      refine (parts_arm hN HP6 hl6 hdf HX6).mono ?_; rintro e w7 (⟨M, c7, j7, v7, hj, rfl, HPx, HMx⟩ | ⟨y, hy, rfl, HU⟩)
      case inr =>
        have HJ := hide_ hy
        clear hy
        unfold Flt
        go_wp2
        exact ⟨rfl, .inr ⟨y, by rw [HRb.out]; unfold bodyP; rw [if_neg (by simp), if_neg (by simp), if_neg (by simp), if_pos (by simp), HJ.out]; rfl, rfl, hide_ (HM6.out.upd HU.out)⟩⟩
      have HJ := hide_ hj
      have HF7 := hide_ ((HF6.out.mv HMx.out HPx.out.1).set 5 (.int .i64 (c7 : Int)) { X with k := 7, n := nn, kids := c7 } rfl)
      have HM7 := hide_ ((HM6.out.trans HMx.out).setx ⟨w.heap.size + 1, 5, none⟩ (.int .i64 (c7 : Int)) (by show w.heap.size ≤ w.heap.size + 1; omega))
      have hl7 := HPx.out.2
      have s5 := (HF6.out.mv HMx.out HPx.out.1).2.2.1.cell 5
      have q5 := (HF6.out.mv HMx.out HPx.out.1).2.2.1.frozen 5
      simp [ndc] at s5
      clear hj HPx HMx k0 b0 b1
      go_upto_region 21 with fail
      clear s5 q5
      obtain ⟨W, hW⟩ : ∃ W, w7.setCell ⟨w.heap.size + 1, 5, none⟩ (.int .i64 (c7 : Int)) = W := ⟨_, rfl⟩
      rw [hW] at HF7 HM7 ⊢
      rw [List.append_assoc, List.singleton_append] at HF7
      obtain ⟨gz, cz, hvz, hgz, hcs, hfz, hov⟩ := Par.over HF7.out.1
      have p0 := HF7.out.2.1.1.cell 0
      have p3 := HF7.out.1.1.cell 3
      have y0 := HF7.out.2.2.1.cell 0; have y1 := HF7.out.2.2.1.cell 1; have y2 := HF7.out.2.2.1.cell 2; have y3 := HF7.out.2.2.1.cell 3; have y4 := HF7.out.2.2.1.cell 4; have y5 := HF7.out.2.2.1.cell 5; have y6 := HF7.out.2.2.1.cell 6
      simp [ndc] at p0 p3 y0 y1 y2 y3 y4 y5 y6
      rw [hvz] at p3
      obtain ⟨c0, hc0⟩ := hcs 0 (by decide); obtain ⟨c1, hc1⟩ := hcs 1 (by decide); obtain ⟨c2, hc2⟩ := hcs 2 (by decide); obtain ⟨c3, hc3⟩ := hcs 3 (by decide); obtain ⟨c4, hc4⟩ := hcs 4 (by decide); obtain ⟨c5, hc5⟩ := hcs 5 (by decide); obtain ⟨c6, hc6⟩ := hcs 6 (by decide)
      have z0 := hfz (N.length * 7); have z1 := hfz (N.length * 7 + 1); have z2 := hfz (N.length * 7 + 2); have z3 := hfz (N.length * 7 + 3); have z4 := hfz (N.length * 7 + 4); have z5 := hfz (N.length * 7 + 5); have z6 := hfz (N.length * 7 + 6)
      simp at hc0 hc1 hc2 hc3 hc4 hc5 hc6 z0 z1 z2 z3 z4 z5 z6
      obtain ⟨hP9, hU9⟩ := hov { X with k := 7, n := nn, kids := c7 }
      have HP9 := hide_ (hP9.later ((Below.refl _ _).drew))
      have HM9 := hide_ ((HM7.out.over hU9).drewM)
      have hlz : (N.length : Int) < (N.length : Int) + 1 + ((M.map (ndP ts L)).length : Int) := by omega
      have hlz2 : N.length < N.length + 1 + (M.map (ndP ts L)).length := by omega
      clear hcs hfz hov hP9 hU9 hvz
      simp only [List.length_map] at hlz hlz2 p3
      go_wp2_with fail
      go_region
      go_wp2
      go_end0
      have HLs : Hid (N ++ ({ x with k := 7, n := nn, kids := c7 } :: M).map (ndP ts L) = N ++ { X with k := 7, n := nn, kids := c7 } :: M.map (ndP ts L)) := by show _ = _; rw [← HXX.out]; rfl
      exact .inl ⟨{ x with k := 7, n := nn, kids := c7 } :: M, j7, v7, by rw [HRb.out]; unfold bodyP; rw [if_neg (by simp), if_neg (by simp), if_neg (by simp), if_pos (by simp), HJ.out]; rfl, rfl, hide_ (by rw [HLs.out]; exact ⟨HP9.out, by have h8 := hl7; simp at h8 ⊢; omega⟩), HM9⟩
    by_cases h8 : kk = 8
    · subst h8
      have HX6 := hide_ HF6.out.2.1
      go_wp2_with fail
      refine (parts_field hN HP6 hl6 hdf HX6).mono ?_; rintro e w7 (⟨M, c7, j7, v7, hj, rfl, HPx, HMx⟩ | ⟨y, hy, rfl, HU⟩)
      case inr =>
        have HJ := hide_ hy
        clear hy
        unfold Flt
        go_wp2
        exact ⟨rfl, .inr ⟨y, by rw [HRb.out]; unfold bodyP; rw [if_neg (by simp), if_neg (by simp), if_neg (by simp), if_neg (by simp), if_pos (by simp), HJ.out]; rfl, rfl, hide_ (HM6.out.upd HU.out)⟩⟩
      have HJ := hide_ hj
      have HF7 := hide_ ((HF6.out.mv HMx.out HPx.out.1).set 5 (.int .i64 (c7 : Int)) { X with k := 8, n := nn, kids := c7 } rfl)
      have HM7 := hide_ ((HM6.out.trans HMx.out).setx ⟨w.heap.size + 1, 5, none⟩ (.int .i64 (c7 : Int)) (by show w.heap.size ≤ w.heap.size + 1; omega))
      have hl7 := HPx.out.2
      have s5 := (HF6.out.mv HMx.out HPx.out.1).2.2.1.cell 5
      have q5 := (HF6.out.mv HMx.out HPx.out.1).2.2.1.frozen 5
      simp [ndc] at s5
      clear hj HPx HMx k0 b0 b1
      go_upto_region 21 with fail
      clear s5 q5
      obtain ⟨W, hW⟩ : ∃ W, w7.setCell ⟨w.heap.size + 1, 5, none⟩ (.int .i64 (c7 : Int)) = W := ⟨_, rfl⟩
      rw [hW] at HF7 HM7 ⊢
      rw [List.append_assoc, List.singleton_append] at HF7
      obtain ⟨gz, cz, hvz, hgz, hcs, hfz, hov⟩ := Par.over HF7.out.1
      have p0 := HF7.out.2.1.1.cell 0
      have p3 := HF7.out.1.1.cell 3
      have y0 := HF7.out.2.2.1.cell 0; have y1 := HF7.out.2.2.1.cell 1; have y2 := HF7.out.2.2.1.cell 2; have y3 := HF7.out.2.2.1.cell 3; have y4 := HF7.out.2.2.1.cell 4; have y5 := HF7.out.2.2.1.cell 5; have y6 := HF7.out.2.2.1.cell 6
      simp [ndc] at p0 p3 y0 y1 y2 y3 y4 y5 y6
      rw [hvz] at p3
      obtain ⟨c0, hc0⟩ := hcs 0 (by decide); obtain ⟨c1, hc1⟩ := hcs 1 (by decide); obtain ⟨c2, hc2⟩ := hcs 2 (by decide); obtain ⟨c3, hc3⟩ := hcs 3 (by decide); obtain ⟨c4, hc4⟩ := hcs 4 (by decide); obtain ⟨c5, hc5⟩ := hcs 5 (by decide); obtain ⟨c6, hc6⟩ := hcs 6 (by decide)
      have z0 := hfz (N.length * 7); have z1 := hfz (N.length * 7 + 1); have z2 := hfz (N.length * 7 + 2); have z3 := hfz (N.length * 7 + 3); have z4 := hfz (N.length * 7 + 4); have z5 := hfz (N.length * 7 + 5); have z6 := hfz (N.length * 7 + 6)
      simp at hc0 hc1 hc2 hc3 hc4 hc5 hc6 z0 z1 z2 z3 z4 z5 z6
      obtain ⟨hP9, hU9⟩ := hov { X with k := 8, n := nn, kids := c7 }
      have HP9 := hide_ (hP9.later ((Below.refl _ _).drew))
      have HM9 := hide_ ((HM7.out.over hU9).drewM)
      have hlz : (N.length : Int) < (N.length : Int) + 1 + ((M.map (ndP ts L)).length : Int) := by omega
      have hlz2 : N.length < N.length + 1 + (M.map (ndP ts L)).length := by omega
      clear hcs hfz hov hP9 hU9 hvz
      simp only [List.length_map] at hlz hlz2 p3
      go_wp2_with fail
      go_region
      go_wp2
      go_end0
      have HLs : Hid (N ++ ({ x with k := 8, n := nn, kids := c7 } :: M).map (ndP ts L) = N ++ { X with k := 8, n := nn, kids := c7 } :: M.map (ndP ts L)) := by show _ = _; rw [← HXX.out]; rfl
      exact .inl ⟨{ x with k := 8, n := nn, kids := c7 } :: M, j7, v7, by rw [HRb.out]; unfold bodyP; rw [if_neg (by simp), if_neg (by simp), if_neg (by simp), if_neg (by simp), if_pos (by simp), HJ.out]; rfl, rfl, hide_ (by rw [HLs.out]; exact ⟨HP9.out, by have h8 := hl7; simp at h8 ⊢; omega⟩), HM9⟩
    have i9 : (kk == 9) = false := by simpa using h9
    have i4 : (kk == 4) = false := by simpa using h4
    have i5 : (kk == 5) = false := by simpa using h5
    have i6 : (kk == 6) = false := by simpa using h6
    have i7 : (kk == 7) = false := by simpa using h7
    have i8 : (kk == 8) = false := by simpa using h8
    go_upto_region 21 with fail
    clear k0 b0 b1
    obtain ⟨gz, cz, hvz, hgz, hcs, hfz, hov⟩ := Par.over HF6.out.1
    have p0 := HF6.out.2.1.1.cell 0
    have p3 := HF6.out.1.1.cell 3
    have y0 := HF6.out.2.2.1.cell 0; have y1 := HF6.out.2.2.1.cell 1; have y2 := HF6.out.2.2.1.cell 2; have y3 := HF6.out.2.2.1.cell 3; have y4 := HF6.out.2.2.1.cell 4; have y5 := HF6.out.2.2.1.cell 5; have y6 := HF6.out.2.2.1.cell 6
    simp [ndc] at p0 p3 y0 y1 y2 y3 y4 y5 y6
    rw [hvz] at p3
    obtain ⟨c0, hc0⟩ := hcs 0 (by decide); obtain ⟨c1, hc1⟩ := hcs 1 (by decide); obtain ⟨c2, hc2⟩ := hcs 2 (by decide); obtain ⟨c3, hc3⟩ := hcs 3 (by decide); obtain ⟨c4, hc4⟩ := hcs 4 (by decide); obtain ⟨c5, hc5⟩ := hcs 5 (by decide); obtain ⟨c6, hc6⟩ := hcs 6 (by decide)
    have z0 := hfz (N.length * 7); have z1 := hfz (N.length * 7 + 1); have z2 := hfz (N.length * 7 + 2); have z3 := hfz (N.length * 7 + 3); have z4 := hfz (N.length * 7 + 4); have z5 := hfz (N.length * 7 + 5); have z6 := hfz (N.length * 7 + 6)
    simp at hc0 hc1 hc2 hc3 hc4 hc5 hc6 z0 z1 z2 z3 z4 z5 z6
    obtain ⟨hP9, hU9⟩ := hov { X with k := kk, n := nn }
    have HP9 := hide_ (hP9.later ((Below.refl _ _).drew))
    have HM9 := hide_ ((HM6.out.over hU9).drewM)
    have hlz : (N.length : Int) < (N.length : Int) + 1 + ((([] : List Nd)).length : Int) := by omega
    have hlz2 : N.length < N.length + 1 + (([] : List Nd)).length := by omega
    clear hcs hfz hov hP9 hU9 hvz
    simp only [List.length_nil, Nat.add_zero, Int.natCast_zero, Int.add_zero] at hlz hlz2 p3
    go_wp2_with fail
    go_region
    go_wp2
    go_end0
    have HLs : Hid (N ++ ([{ x with k := kk, n := nn }]).map (ndP ts L) = N ++ { X with k := kk, n := nn } :: ([] : List Nd)) := by show _ = _; rw [← HXX.out]; rfl
    exact .inl ⟨[{ x with k := kk, n := nn }], p + 1, v6, by rw [HRb.out]; unfold bodyP; rw [if_neg h9, if_neg (by simp; exact ⟨h4, h5⟩), if_neg h6, if_neg h7, if_neg h8], rfl, hide_ (by rw [HLs.out]; exact ⟨HP9.out, by simp; omega⟩), HM9⟩
theorem node_any (f : Nat) : NodeOk f := by
  induction f with
  | zero => exact node_zero
  | succ f ih => exact node_succ f (hide_ ih)
end Go.Proofs.Ytokepgimjdalaaa
