/- lent of the law of names (Uf's text over mortiselaw08.lent, for a seat without the parser). -/
import Derived.Test.YtjeafblkmipdmaaLt
import Derived.Deep.RegionLaw
namespace Go.Proofs.Ytjeafblkmipdmaa
open Go.RowKit
set_option linter.unusedVariables false

theorem own_lt {w : World} {B n c k : Nat} {e : TypeId} {v : Value} {xs : List Value} (h : w.ownsRow B e c v n xs) (hk : v.ownBlock = some k) : k < w.heap.size := (h.lt k hk).2
theorem own_slice {w : World} {B n c : Nat} {e : TypeId} {v : Value} {xs : List Value} (h : w.ownsRow B e c v n xs) : ∃ a cap, v = .slice a n cap := by
  rcases h.2 with ⟨rfl, hn⟩ | ⟨g, cap, cur, rfl, _⟩
  · exact ⟨none, 0, by rw [hn]⟩
  · exact ⟨_, _, rfl⟩
theorem retS {fn : Func} {p : Tmp} (h : fn.results = #[.cell p 24]) {R : Ending → World → Prop} {tmps : Array Value} {g : Nat} {w : World} {v : Value} (hp : tmps.getD p undef = .pointer (some ⟨g, 0, none⟩)) (hK : Blk w g 24 [v]) (hR : R (.returned (.agg #[v])) w) :
    bodyPost Try.prog fn R Exit.ret ⟨tmps, []⟩ w :=
  bodyPost_ret (results_cell_row h _ _ _ _ #[v] _ _ hp hK Try.underlying24 rfl (by show _ = some 1; kernel_rfl)) rfl hR
theorem own_cut {w : World} {B e c g n m cap : Nat} {xs : List Value} (h : w.ownsRow B e c (.slice (some ⟨g, 0, none⟩) n cap) n xs) (hm : m ≤ n) : w.ownsRow B e c (.slice (some ⟨g, 0, none⟩) m cap) m (xs.take (m * c)) := by
  refine ⟨by rw [List.length_take, h.1]; exact Nat.min_eq_left (Nat.mul_le_mul_right c hm), ?_⟩
  rcases h.2 with ⟨h0, _⟩ | ⟨g', cap', cur, hv, hb, hg, hnc, hcm, hs, ht⟩
  · cases h0
  · injection hv with h1 h2 h3
    injection h1 with h1
    injection h1 with h1
    subst h1 h3
    refine .inr ⟨g, cap, cur, rfl, hb, hg, Nat.le_trans hm hnc, hcm, hs, ?_⟩
    rw [← ht, List.take_take]
    congr 1
    exact (Nat.min_eq_left (Nat.mul_le_mul_right c hm)).symm
def mark0 : Nd := { nd0 with k := -77 }
/-- A copy with a mark behind it: append, then cut. -/
theorem mark_push {w : World} {B : Nat} {v : Value} {N : List Nd} (h : w.ownsRow B 38 7 v N.length (cellsN N)) (hl : N.length ≤ 1954687338267) (hB : B ≤ w.heap.size) :
    ∃ g cap w', (Builtin.append_ #[39, 39] 39 #[v, .slice (some ⟨w.heap.size, 0, none⟩) 1 1]).run Try.prog (w.alloc (.cells #[.int .i64 (-77), .int .i64 0, .string ⟨#[]⟩, .string ⟨#[]⟩, .int .i64 0, .int .i64 0, .int .i64 0] 38)) = .ok (.slice (some ⟨g, 0, none⟩) (N.length + 1) cap) w' ∧
      w'.ownsRow B 38 7 (.slice (some ⟨g, 0, none⟩) N.length cap) N.length (cellsN N) ∧ Upd (fun k => v.ownBlock = some k) w w' ∧ (v.ownBlock = some g ∨ w.heap.size ≤ g) ∧ N.length + 1 ≤ cap ∧ cap ≤ 9223372036854775807 ∧ ∃ ys, Blk w' g 38 ys ∧ ys[N.length * 7]? = some (.int .i64 (-77)) := by
  obtain ⟨g, cap, w', r1, o1, u1, c1⟩ := run_pushS (P := Try.prog) (t := 39) (e := 38) (c := 7) (z := .agg #[.int .i64 0, .int .i64 0, .string ⟨#[]⟩, .string ⟨#[]⟩, .int .i64 0, .int .i64 0, .int .i64 0]) (bytes := 72) Try.underlying39 (by kernel_rfl) rfl (by decide) w 39 h (ndc mark0) rfl (by intro u hu; simp [ndc] at hu; rcases hu with rfl | rfl | rfl | rfl | rfl | rfl | rfl <;> rfl) (by unfold maxLen; omega) (by omega) hB
  obtain ⟨g', cap', ys, hv, _, hn, hm, _, hyt, hyk⟩ := ownS_blk o1 (by omega)
  injection hv with h1 h2 h3
  injection h1 with h1
  injection h1 with h1
  subst h1 h3
  refine ⟨g, cap, w', r1, ?_, u1, c1, hn, by unfold maxLen at hm; exact hm, ys, hyk, ?_⟩
  rotate_left
  · have h5 : (ys.take ((N.length + 1) * 7))[N.length * 7]? = some (.int .i64 (-77)) := by
      rw [hyt, List.getElem?_append_right (by rw [cellsN_len]; exact Nat.le_refl _), cellsN_len, Nat.sub_self]
      rfl
    rw [List.getElem?_take, if_pos (by omega)] at h5
    exact h5
  have h4 := own_cut o1 (m := N.length) (by omega)
  have e : (cellsN N ++ ndc mark0).take (N.length * 7) = cellsN N := by rw [← cellsN_len]; exact List.take_left
  rw [e] at h4
  exact h4
/-- The marks behind the lists of nodes. -/
def MkN (w : World) (D : List Df) (vs : List Value) : Prop := ∀ (i : Nat) (d : Df) (v : Value), D[i]? = some d → vs[i]? = some v → ∃ g cap ys, v = .slice (some ⟨g, 0, none⟩) d.ty.length cap ∧ d.ty.length + 1 ≤ cap ∧ Blk w g 38 ys ∧ ys[d.ty.length * 7]? = some (.int .i64 (-77))
theorem MkN.upd {S : Nat → Prop} {w w' : World} {D : List Df} {vs : List Value} (h : MkN w D vs) (hu : Upd S w w') (hS : ∀ g ys, Blk w g 38 ys → ¬ S g) : MkN w' D vs := fun i d v hd hv => by
  obtain ⟨g, cap, ys, h1, h2, h3, h4⟩ := h i d v hd hv
  exact ⟨g, cap, ys, h1, h2, h3.upd hu (hS g ys h3), h4⟩
theorem MkN.later {w w' : World} {D : List Df} {vs : List Value} (h : MkN w D vs) (hB : Below w.heap.size w w') : MkN w' D vs := h.upd (Upd.of_below (S := fun _ => False) hB) (fun _ _ _ h => h)
theorem MkN.push {w : World} {D : List Df} {vs : List Value} (hl : vs.length = D.length) (h : MkN w D vs) {d : Df} {g cap : Nat} {ys : List Value} (h2 : d.ty.length + 1 ≤ cap) (h3 : Blk w g 38 ys) (h4 : ys[d.ty.length * 7]? = some (.int .i64 (-77))) : MkN w (D ++ [d]) (vs ++ [.slice (some ⟨g, 0, none⟩) d.ty.length cap]) := fun i x v hx hv => by
  rcases Nat.lt_or_ge i D.length with hi | hi
  · rw [List.getElem?_append_left hi] at hx
    rw [List.getElem?_append_left (by rw [hl]; exact hi)] at hv
    exact h i x v hx hv
  · rw [List.getElem?_append_right hi] at hx
    rw [List.getElem?_append_right (by rw [hl]; exact hi), hl] at hv
    have h0 : i - D.length = 0 := by
      have := (List.getElem?_eq_some_iff.1 hx).1
      simpa using this
    rw [h0] at hx hv
    simp at hx hv
    subst hx hv
    exact ⟨g, cap, ys, rfl, h2, h3, h4⟩
/-- The mark behind the definitions. -/
def MkD (w : World) (vd : Value) (D : List Df) : Prop := ∃ g cap ys, vd = .slice (some ⟨g, 0, none⟩) D.length cap ∧ D.length + 1 ≤ cap ∧ Blk w g 41 ys ∧ ys[D.length * 3 + 1]? = some (.int .i64 (-78))
theorem MkD.upd {S : Nat → Prop} {w w' : World} {vd : Value} {D : List Df} (h : MkD w vd D) (hu : Upd S w w') (hS : ∀ g ys, Blk w g 41 ys → ¬ S g) : MkD w' vd D := by
  obtain ⟨g, cap, ys, h1, h2, h3, h4⟩ := h
  exact ⟨g, cap, ys, h1, h2, h3.upd hu (hS g ys h3), h4⟩
def LentTo (w w' : World) (vd : Value) (D : List Df) : Prop := ∃ vs, Hid (Src w' w.heap.size vd D vs) ∧ Hid (Below w.heap.size w w') ∧ Hid (MkN w' D vs ∧ MkD w' vd D)
theorem lent_round {w w7 w9 : World} {B b1 b2 b3 : Nat} {vd nv u1 u2 : Value} {D D9 : List Df} {vs vs9 : List Value} (h1 : Blk w7 b1 24 [u1]) (h2 : Blk w7 b2 24 [u2]) (h3 : Blk w7 b3 24 [vd]) (n1 : b1 ≠ b3) (n2 : b2 ≠ b3) (hb3 : B ≤ b3) (HS : Src w7 B vd D vs) (S9 : Src w9 B nv D9 vs9) (U9 : Upd (fun k => vd.ownBlock = some k) w7.drew w9) (hB : Below B w w7) :
    Hid (Src (w9.setCell ⟨b3, 0, none⟩ nv) B nv D9 vs9) ∧ Hid (Blk (w9.setCell ⟨b3, 0, none⟩ nv) b1 24 [u1]) ∧ Hid (Blk (w9.setCell ⟨b3, 0, none⟩ nv) b2 24 [u2]) ∧ Hid (Blk (w9.setCell ⟨b3, 0, none⟩ nv) b3 24 [nv]) ∧ Hid (Below B w (w9.setCell ⟨b3, 0, none⟩ nv)) := by
  have hu : Upd (fun k => vd.ownBlock = some k) w7 w9 := (Upd.refl (fun k => vd.ownBlock = some k) w7).drew.trans U9 (fun _ _ h => h)
  have hvt : ∀ (b : Nat) (x : Value), Blk w7 b 24 [x] → vd.ownBlock ≠ some b := fun b x hb e => by
    obtain ⟨zs, hz⟩ := ownS_type HS.2.1 e
    exact absurd (blk_type hb hz) (by decide)
  have k1 := h1.upd hu (hvt _ _ h1)
  have k2 := h2.upd hu (hvt _ _ h2)
  have k3 := h3.upd hu (hvt _ _ h3)
  have hU : Upd (fun k => k = b3) w9 (w9.setCell ⟨b3, 0, none⟩ nv) := (Upd.refl _ w9).set _ _ (.inl rfl)
  refine ⟨S9.other hU k3 (by decide) (by decide), k1.other _ _ n1, k2.other _ _ n2, hide_ (by have := k3.set 0 nv; simpa using this), hide_ (below_set (hB.trans (hu.below B (Nat.le_trans hb3 (Nat.le_of_lt h3.lt)) (fun k hk => (HS.2.1.lt k hk).1))) b3 0 nv hb3)⟩
theorem Src.cutS {w : World} {B g n cap : Nat} {D : List Df} {vs : List Value} {d : Df} {v : Value} (hn : D.length = n) (h : Src w B (.slice (some ⟨g, 0, none⟩) (n + 1) cap) (D ++ [d]) (vs ++ [v])) : Src w B (.slice (some ⟨g, 0, none⟩) n cap) D vs := by
  subst hn
  have hl : vs.length = D.length := by have := h.1; simp at this; exact this
  have h2 := h.2.1
  rw [List.length_append, cellsD_snoc D vs d v hl] at h2
  have h3 := own_cut h2 (m := D.length) (by simp)
  have hcl : ∀ (D : List Df) (vs : List Value), vs.length = D.length → (cellsD D vs).length = D.length * 3 := by
    intro D
    induction D with
    | nil => intro vs _; cases vs <;> simp [cellsD]
    | cons x D ih =>
      intro vs hv
      cases vs with
      | nil => simp at hv
      | cons u vs => rw [cellsD, List.length_append, ih vs (by simpa using hv)]; simp [dfc]; omega
  have e : (cellsD D vs ++ dfc d v).take (D.length * 3) = cellsD D vs := by rw [← hcl D vs hl]; exact List.take_left
  rw [e] at h3
  refine ⟨hl, h3, fun i x u hx hu => h.2.2.1 i x u ?_ ?_, fun i j x y k hx hy => h.2.2.2 i j x y k ?_ ?_⟩
  · rw [List.getElem?_append_left (List.getElem?_eq_some_iff.1 hx).1]; exact hx
  · rw [List.getElem?_append_left (List.getElem?_eq_some_iff.1 hu).1]; exact hu
  · rw [List.getElem?_append_left (List.getElem?_eq_some_iff.1 hx).1]; exact hx
  · rw [List.getElem?_append_left (List.getElem?_eq_some_iff.1 hy).1]; exact hy
theorem Src.none0 {w : World} {B : Nat} {vd : Value} {D : List Df} {vs : List Value} (h : Src w B vd D vs) : ∃ a c, vd = .slice a D.length c := own_slice h.2.1
set_option maxRecDepth 100000 in
set_option maxHeartbeats 8000000 in
theorem lent_all (a : Option Addr) (c : Nat) (D : List Df) (w : World) (hS : Hid (Wt D)) (hc : D.length ≤ c) (hR : Hid (DRow w a D)) :
    Calls Try.prog 12 #[.agg #[.slice a D.length c]] w fun e w' => ∃ vd, e = .returned (.agg #[vd]) ∧ LentTo w w' vd D := by
  have hD := hS.out.1
  obtain ⟨wa, hwa⟩ : ∃ wa, wa = ((w.alloc (.cells #[.slice a D.length c] 24)).alloc (.cells #[.slice none 0 0] 24)).alloc (.cells #[.slice none 0 0] 24) := ⟨_, rfl⟩
  obtain ⟨k1, k2⟩ := blk2 w #[.slice a D.length c] #[.slice none 0 0] 24
  have k3 := Blk.newA ((w.alloc (.cells #[.slice a D.length c] 24)).alloc (.cells #[.slice none 0 0] 24)) #[.slice none 0 0] 24
  have HK1 : Hid (Blk wa w.heap.size 24 [.slice a D.length c]) := by rw [hwa]; exact hide_ (k1.alloc _)
  have HK2 : Hid (Blk wa (w.heap.size + 1) 24 [.slice none 0 0]) := by rw [hwa]; exact hide_ (k2.alloc _)
  have HK3 : Hid (Blk wa (w.heap.size + 1 + 1) 24 [.slice none 0 0]) := by rw [hwa]; exact hide_ (by simpa using k3)
  have HBa : Hid (Below w.heap.size w wa) := by rw [hwa]; exact hide_ ((below2 w _ _).alloc (by simp; omega) _)
  clear k1 k2 k3
  go_enter Try.func12, Try.ntmps12
  go_upto_region 2 with fail
  rw [← hwa]
  clear hwa
  go_wp2_with fail
  go_loopw [4] (fun i wr => ∃ (k : Nat) (vd : Value) (vs : List Value), k ≤ D.length ∧ i = .int .i64 (k : Int) ∧ Hid (Src wr w.heap.size vd (D.take k) vs) ∧ Hid (Blk wr w.heap.size 24 [.slice a D.length c]) ∧ Hid (Blk wr (w.heap.size + 1) 24 [.slice none 0 0]) ∧ Hid (Blk wr (w.heap.size + 1 + 1) 24 [vd]) ∧ Hid (Below w.heap.size w wr) ∧ Hid (MkN wr (D.take k) vs)) (fun i _ => D.length - (intOf i).toNat)
  case atStart => exact ⟨0, .slice none 0 0, [], Nat.zero_le _, rfl, by rw [List.take_zero]; exact Src.nil _ _, HK1, HK2, HK3, HBa, hide_ (fun i d v h => by simp at h)⟩
  case round =>
    clear HK1 HK2 HK3 HBa
    obtain ⟨k, vd, vs, hk, rfl, HS, HK1, HK2, HK3, HB, HM⟩ := hrel
    generalize wr = wq at *
    have x0 := HK1.out.cell 0; have x3 := HK3.out.cell 0
    simp at x0 x3
    by_cases hlt : k < D.length
    · have hlt' : (k : Int) < D.length := by omega
      obtain ⟨b, o, rfl, hb, hcs⟩ := (hR.out.later HB.out).open (by omega)
      have hd : D[k]? = some (D[k]'hlt) := List.getElem?_eq_getElem hlt
      obtain ⟨va, vc, h1, hv1, hvn, hN⟩ := hcs k _ hd
      have hty : (D[k]'hlt).ty.length ≤ 1954687338267 := hS.out.2 _ (List.getElem_mem hlt)
      have HTk : Hid (D.take (k + 1) = D.take k ++ [D[k]'hlt]) := by show _ = _; rw [List.take_add_one, hd]; rfl
      generalize D[k]'hlt = d at *
      have p0 := h1 0 (by decide); have p1 := h1 1 (by decide); have p2 := h1 2 (by decide)
      simp [dfc] at p0 p1 p2
      obtain ⟨v6, w6, R6, O6, B6, N6⟩ := run_copyN wq w.heap.size va vc d.ty hN hvn (by omega) HB.out.size
      obtain ⟨g7, c7, w7, R7, O7, U7, C7, L7, M7, ys7, Y7, Z7⟩ := mark_push O6 hty (Nat.le_trans HB.out.size B6.size)
      have hu7 : Below wq.heap.size wq w7 := B6.trans (U7.below _ B6.size (fun j hj => N6 j hj))
      have hg7 : wq.heap.size ≤ g7 := by
        rcases C7 with h | h
        · exact N6 _ h
        · exact Nat.le_trans B6.size h
      have S7 := HS.out.later hu7
      have Mk7 := MkN.push S7.1 (HM.out.later hu7) L7 Y7 Z7
      have hl7 : (D.take k).length ≤ 256 ∨ True := .inr trivial
      have HR6 := hide_ R6
      have HR7 := hide_ R7
      clear R6 R7 h1 hcs hN hd
      go_upto_region 8 with (first | (at_builtin; have _t := HR6; refine wpList_append_run rfl (.tmp 13) (.tmp 19) 39 39 rfl rfl rfl HR6.out ?_; clear HR6) | (at_builtin; have _t := HR7; refine wpList_append_run rfl (.tmp 21) (.tmp 23) 39 39 rfl rfl rfl HR7.out ?_; clear HR7))
      have P0 := hide_ p0
      have P1 := hide_ p1
      clear x0 x3 p0 p1 p2
      have K17 := HK1.out.later hu7
      have K27 := HK2.out.later hu7
      have K37 := HK3.out.later hu7
      have hB7 := HB.out.trans (hu7.mono HB.out.size)
      have hcell : ∀ j, j < 3 → w7.cell? ⟨b, o + k * 3 + j, none⟩ = wq.cell? ⟨b, o + k * 3 + j, none⟩ := fun j hj => hu7.cell (p := ⟨b, o + k * 3 + j, none⟩) hb
      have S7d : Src w7.drew w.heap.size vd (D.take k) vs := S7.later ((Below.refl _ _).drew)
      have O7d : w7.drew.ownsRow w.heap.size 38 7 (.slice (some ⟨g7, 0, none⟩) d.ty.length c7) d.ty.length (cellsN d.ty) := ownS_upd O7 (Upd.of_below (S := fun _ => False) ((Below.refl _ _).drew)) (fun _ _ h => h)
      obtain ⟨g9, c9, w9, R9, S9, U9, C9⟩ := S7d.push d (.slice (some ⟨g7, 0, none⟩) d.ty.length c7) O7d (fun i u j hu hj e => by
        obtain ⟨d', hd'⟩ := HS.out.d hu
        have h1 := own_lt (HS.out.2.2.1 i d' u hd' hu) hj
        have h2 := own_is e
        omega) (by rw [List.length_take]; omega) hB7.size rfl
      obtain ⟨q1, q2, q3, q4, q5⟩ := lent_round K17 K27 K37 (by omega) (by omega) (by omega) S7 S9 U9 hB7
      obtain ⟨da, dc, hdv⟩ := S7.none0
      have hlk : (D.take k).length = k := by rw [List.length_take]; omega
      rw [hlk] at hdv R9 q1 q2 q3 q4 q5
      have K39 := (show Blk w7.drew (w.heap.size + 1 + 1) 24 [vd] from K37).upd U9 (fun e => by
        obtain ⟨zs, hz⟩ := ownS_type S7.2.1 e
        exact absurd (blk_type K37 hz) (by decide))
      have Mk9 : MkN w9 (D.take k ++ [d]) (vs ++ [.slice (some ⟨g7, 0, none⟩) d.ty.length c7]) := (show MkN w7.drew _ _ from Mk7).upd U9 (fun g ys hg e => by
        obtain ⟨zs, hz⟩ := ownS_type S7.2.1 e
        exact absurd (blk_type (show Blk w7 g 38 ys from hg) hz) (by decide))
      have Mk10 := Mk9.upd ((Upd.refl (fun j => j = w.heap.size + 1 + 1) w9).set ⟨w.heap.size + 1 + 1, 0, none⟩ (.slice (some ⟨g9, 0, none⟩) (k + 1) c9) (.inl rfl)) (fun g ys hg e => by
        subst e
        exact absurd (blk_type hg K39) (by decide))
      rw [← HTk.out] at Mk10
      subst hdv
      have HR9 : Hid ((Builtin.append_ #[22, 22] 22 #[.slice da k dc, .slice (some ⟨w7.heap.size, 0, none⟩) 1 1]).run Try.prog (w7.alloc (.cells #[.string d.name, .int .i64 d.a, .slice (some ⟨g7, 0, none⟩) d.ty.length c7] 41)).drew = .ok (.slice (some ⟨g9, 0, none⟩) (k + 1) c9) w9) := R9
      have x1 := K17.cell 0
      have x3 := K37.cell 0
      have x3a : ∀ ob, (w7.alloc ob).cell? ⟨w.heap.size + 1 + 1, 0, none⟩ = some (.slice da k dc) := fun ob => (cell_al w7 ob _ _ K37.lt).trans (K37.cell 0)
      have x9 := K39.cell 0
      have z9 := K39.frozen 0
      have y0 := (hcell 0 (by decide)).trans P0.out
      have y1 := (hcell 1 (by decide)).trans P1.out
      simp at x1 x3 x9 y0 y1
      have hw0 : IntKind.i64.wrap (d.ty.length : Int) = d.ty.length := by rw [IntKind.wrap_i64]; omega
      have hle7 : 0 ≤ (d.ty.length : Int) ∧ (d.ty.length : Int) ≤ c7 := by omega
      have hw1 : IntKind.i64.wrap ((d.ty.length : Int) + 1 - 1) = d.ty.length := by rw [IntKind.wrap_i64]; omega
      have HQ := hide_ (show (∃ vd vs, Hid (Src (w9.setCell ⟨w.heap.size + 1 + 1, 0, none⟩ (.slice (some ⟨g9, 0, none⟩) (k + 1) c9)) w.heap.size vd (D.take (k + 1)) vs) ∧ Hid (Blk (w9.setCell ⟨w.heap.size + 1 + 1, 0, none⟩ (.slice (some ⟨g9, 0, none⟩) (k + 1) c9)) w.heap.size 24 [.slice (some ⟨b, o, none⟩) D.length c]) ∧ Hid (Blk (w9.setCell ⟨w.heap.size + 1 + 1, 0, none⟩ (.slice (some ⟨g9, 0, none⟩) (k + 1) c9)) (w.heap.size + 1) 24 [.slice none 0 0]) ∧ Hid (Blk (w9.setCell ⟨w.heap.size + 1 + 1, 0, none⟩ (.slice (some ⟨g9, 0, none⟩) (k + 1) c9)) (w.heap.size + 1 + 1) 24 [vd]) ∧ Hid (Below w.heap.size w (w9.setCell ⟨w.heap.size + 1 + 1, 0, none⟩ (.slice (some ⟨g9, 0, none⟩) (k + 1) c9))) ∧ Hid (MkN (w9.setCell ⟨w.heap.size + 1 + 1, 0, none⟩ (.slice (some ⟨g9, 0, none⟩) (k + 1) c9)) (D.take (k + 1)) vs)) from ⟨_, _, by rw [HTk.out]; exact q1, q2, q3, q4, q5, hide_ Mk10⟩)
      clear R9 S9 U9 C9 q1 q2 q3 q4 q5 Mk7 Mk9 Mk10 Y7 Z7 HM K17 K27 K37 K39 S7 S7d O7 O7d U7 C7 O6 B6 N6 hu7 hcell hB7 HS HK1 HK2 HK3 HB P0 P1 HTk
      have HMs : Hid (k + 1 ≤ D.length) := hlt
      go_wp2_with fail
      go_region_law (refine step_append_run rfl (.tmp 26) (.tmp 45) 22 22 rfl rfl rfl HR9.out ?_)
      all_goals
        obtain ⟨vd, vs, q1, q2, q3, q4, q5, q6⟩ := HQ.out
        go_wp2
        go_roundw
        case rel => exact ⟨k + 1, vd, vs, HMs.out, by go_num, q1, q2, q3, q4, q5, q6⟩
        case measure => simp [intOf]; omega
    · obtain rfl : k = D.length := by omega
      have HS0 := HS.out
      rw [List.take_length] at HS0
      obtain ⟨da, dc, hdv⟩ := HS0.none0
      obtain ⟨g9, c9, w9, R9, S9, U9, C9⟩ := HS0.push ⟨⟨#[109, 97, 114, 107]⟩, -78, []⟩ (.slice none 0 0) (World.ownsRow_nil _ _ _ _) (fun i u j hu hj e => by cases e) (by omega) HB.out.size rfl
      have S10 := S9.cutS rfl
      have K39 := HK3.out.upd U9 (fun e => by
        obtain ⟨zs, hz⟩ := ownS_type HS0.2.1 e
        exact absurd (blk_type HK3.out hz) (by decide))
      have K19 := HK1.out.upd U9 (fun e => by
        obtain ⟨zs, hz⟩ := ownS_type HS0.2.1 e
        exact absurd (blk_type HK1.out hz) (by decide))
      have K29 := HK2.out.upd U9 (fun e => by
        obtain ⟨zs, hz⟩ := ownS_type HS0.2.1 e
        exact absurd (blk_type HK2.out hz) (by decide))
      have HM0 := HM.out
      rw [List.take_length] at HM0
      have Mk9 : MkN w9 D vs := HM0.upd U9 (fun g ys hg e => by
        obtain ⟨zs, hz⟩ := ownS_type HS0.2.1 e
        exact absurd (blk_type hg hz) (by decide))
      have Md9 : MkD w9 (.slice (some ⟨g9, 0, none⟩) D.length c9) D := by
        obtain ⟨g', cap', ys, hv, _, hn, _, _, hyt, hyk⟩ := ownS_blk S9.2.1 (by simp)
        injection hv with h1 h2 h3
        injection h1 with h1
        injection h1 with h1
        subst h1 h3
        refine ⟨g9, c9, ys, rfl, by simpa using hn, hyk, ?_⟩
        have h5 : (ys.take ((D ++ [(⟨⟨#[109, 97, 114, 107]⟩, -78, []⟩ : Df)]).length * 3))[D.length * 3 + 1]? = some (.int .i64 (-78)) := by
          rw [hyt, cellsD_snoc D vs _ _ HS0.1]
          have hcl : (cellsD D vs).length = D.length * 3 := by rw [HS0.2.1.1]
          rw [List.getElem?_append_right (by omega), hcl, Nat.add_sub_cancel_left]
          rfl
        rw [List.getElem?_take, if_pos (by simp; omega)] at h5
        exact h5
      have hB9 := HB.out.trans (U9.below w.heap.size HB.out.size (fun j hj => (HS0.2.1.lt j hj).1))
      have hc9 : D.length ≤ c9 := by
        obtain ⟨_, _, _, hv, _, hn, _⟩ := ownS_blk S9.2.1 (by simp)
        injection hv with _ _ h3
        subst h3
        simp at hn
        omega
      have n1 : ¬ w.heap.size = w.heap.size + 1 + 1 := by omega
      have n2 : ¬ w.heap.size + 1 = w.heap.size + 1 + 1 := by omega
      have n3 : ¬ w.heap.size + 1 + 1 = w.heap.size + 1 := by omega
      have n4 : ¬ w.heap.size + 1 + 1 = w.heap.size := by omega
      have hle : (D.length : Int) ≤ c9 := by omega
      have hle9 : 0 ≤ (D.length : Int) ∧ (D.length : Int) ≤ c9 := by omega
      subst hdv
      have HR9 := hide_ R9
      have x9 := K39.cell 0; have z9 := K39.frozen 0
      have y1 := K19.cell 0
      have y2 := K29.cell 0; have t2 := K29.frozen 0
      simp at x9 y1 y2
      have HSS := hide_ S10
      have HK39 := hide_ K39
      have HK29 := hide_ K29
      have HB9 := hide_ hB9
      have HMk := hide_ Mk9
      have HMd := hide_ Md9
      clear R9 S9 U9 C9 S10 K39 K19 K29 hB9 HS0 HS HK1 HK2 HK3 HB Mk9 Md9 HM HM0
      go_wp2_with (at_builtin; have _t := HR9; refine wpList_append_run rfl (.tmp 49) (.tmp 51) 22 22 rfl rfl rfl HR9.out ?_; clear HR9)
      have hu1 : Upd (fun j => j = w.heap.size + 1 + 1) w9 ((w9.setCell ⟨w.heap.size + 1 + 1, 0, none⟩ (.slice (some ⟨g9, 0, none⟩) (D.length + 1) c9)).setCell ⟨w.heap.size + 1 + 1, 0, none⟩ (.slice (some ⟨g9, 0, none⟩) D.length c9)) := ((Upd.refl (fun j => j = w.heap.size + 1 + 1) w9).set ⟨w.heap.size + 1 + 1, 0, none⟩ _ (.inl rfl)).set ⟨w.heap.size + 1 + 1, 0, none⟩ _ (.inl rfl)
      have s1 := HSS.out.other hu1 HK39.out (by decide) (by decide)
      have k2a := HK29.out.upd hu1 (by omega)
      have hu2 : Upd (fun j => j = w.heap.size + 1) ((w9.setCell ⟨w.heap.size + 1 + 1, 0, none⟩ (.slice (some ⟨g9, 0, none⟩) (D.length + 1) c9)).setCell ⟨w.heap.size + 1 + 1, 0, none⟩ (.slice (some ⟨g9, 0, none⟩) D.length c9)) (((w9.setCell ⟨w.heap.size + 1 + 1, 0, none⟩ (.slice (some ⟨g9, 0, none⟩) (D.length + 1) c9)).setCell ⟨w.heap.size + 1 + 1, 0, none⟩ (.slice (some ⟨g9, 0, none⟩) D.length c9)).setCell ⟨w.heap.size + 1, 0, none⟩ (.slice (some ⟨g9, 0, none⟩) D.length c9)) := (Upd.refl (fun j => j = w.heap.size + 1) _).set ⟨w.heap.size + 1, 0, none⟩ _ (.inl rfl)
      have s2 := s1.other hu2 k2a (by decide) (by decide)
      have m1 := HMk.out.upd hu1 (fun g ys hg e => by subst e; exact absurd (blk_type hg HK39.out) (by decide))
      have m2 := m1.upd hu2 (fun g ys hg e => by subst e; exact absurd (blk_type hg k2a) (by decide))
      have d1 := HMd.out.upd hu1 (fun g ys hg e => by subst e; exact absurd (blk_type hg HK39.out) (by decide))
      have d2 := d1.upd hu2 (fun g ys hg e => by subst e; exact absurd (blk_type hg k2a) (by decide))
      have hb := below_set (below_set (below_set HB9.out (w.heap.size + 1 + 1) 0 (.slice (some ⟨g9, 0, none⟩) (D.length + 1) c9) (by omega)) (w.heap.size + 1 + 1) 0 (.slice (some ⟨g9, 0, none⟩) D.length c9) (by omega)) (w.heap.size + 1) 0 (.slice (some ⟨g9, 0, none⟩) D.length c9) (by omega)
      exact retS rfl rfl (by have h := k2a.set 0 (.slice (some ⟨g9, 0, none⟩) D.length c9); simpa using h) ⟨_, rfl, ⟨vs, s2, hb, hide_ ⟨m2, d2⟩⟩⟩
end Go.Proofs.Ytjeafblkmipdmaa
