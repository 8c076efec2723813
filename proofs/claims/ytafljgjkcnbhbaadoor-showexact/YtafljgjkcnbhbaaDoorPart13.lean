import Derived.Test.YtafljgjkcnbhbaaDoorPart12
import Derived.Deep.RegionLaw

/- Nodes in memory: one more, one written over; node's frame. -/
namespace Go.Proofs.YtafljgjkcnbhbaaDoor
open Go.RowKit
set_option linter.unusedVariables false

theorem ndc_len (x : Nd) : (ndc x).length = 7 := rfl
theorem own_lt {w : World} {B n c k : Nat} {e : TypeId} {v : Value} {xs : List Value} (h : w.ownsRow B e c v n xs) (hk : v.ownBlock = some k) : k < w.heap.size := (h.lt k hk).2
/-- One node more: append, then the store into the parser. -/
theorem Par.push {w : World} {B g : Nat} {tv v : Value} {ts : List Tk} {L p : Nat} {N : List Nd} (h : Par w B g tv ts L p v N) (hl : N.length ≤ 65536) (y : Nd) :
    ∃ gn cap w', (Builtin.append_ #[39, 39] 39 #[v, .slice (some ⟨w.heap.size, 0, none⟩) 1 1]).run Tryd.prog (w.alloc (.cells #[.int .i64 y.k, .int .i64 y.n, .string y.name, .string y.label, .int .i64 y.tag, .int .i64 y.kids, .int .i64 y.a] 38)) = .ok (.slice (some ⟨gn, 0, none⟩) (N.length + 1) cap) w' ∧
      Upd (fun k => v.ownBlock = some k) w w' ∧ (v.ownBlock = some gn ∨ w.heap.size ≤ gn) ∧ Par (w'.setCell ⟨g, 3, none⟩ (.slice (some ⟨gn, 0, none⟩) (N.length + 1) cap)) B g tv ts L p (.slice (some ⟨gn, 0, none⟩) (N.length + 1) cap) (N ++ [y]) := by
  obtain ⟨gn, cap, w', r1, o1, u1, c1⟩ := run_pushS (P := Tryd.prog) (t := 39) (e := 38) (z := .agg #[.int .i64 0, .int .i64 0, .string ⟨#[]⟩, .string ⟨#[]⟩, .int .i64 0, .int .i64 0, .int .i64 0]) (bytes := 72) Tryd.underlying39 (by kernel_rfl) rfl (by decide) w 39 h.2.2.1 (ndc y) rfl (by intro u hu; simp [ndc] at hu; rcases hu with rfl | rfl | rfl | rfl | rfl | rfl | rfl <;> rfl) (by unfold maxLen; omega) (by omega) (Nat.le_trans h.2.2.2.1 (Nat.le_of_lt h.1.lt))
  refine ⟨gn, cap, w', r1, u1, c1, ?_⟩
  have hg : g ≠ gn := fun e => by
    rcases c1 with c1 | c1
    · exact h.ne2 c1 e.symm
    · have := h.1.lt; omega
  have h1 : Blk w' g 57 [tv, .int .i64 p, .int .i64 L, v] := h.1.upd u1 (fun e => h.ne2 e rfl)
  have h2 := ownS_upd h.2.1 u1 (fun k hk => h.ne3 hk)
  have hu : Upd (fun k => k = g) w' (w'.setCell ⟨g, 3, none⟩ (.slice (some ⟨gn, 0, none⟩) (N.length + 1) cap)) := (Upd.refl _ w').set _ _ (.inl rfl)
  refine ⟨by have := h1.set 3 (.slice (some ⟨gn, 0, none⟩) (N.length + 1) cap); simpa using this, ownS_upd h2 hu (fun k hk => h.ne1 hk), ?_, h.2.2.2⟩
  rw [cellsN_app, cellsN_one, List.length_append]
  exact ownS_upd o1 hu (fun k hk e => hg (by rw [← e]; exact (own_is hk).symm))
theorem set7 {w : World} {g o : Nat} {t : TypeId} {A R : List Value} {x0 x1 x2 x3 x4 x5 x6 : Value} (h : Blk w g t (A ++ [x0, x1, x2, x3, x4, x5, x6] ++ R)) (ho : A.length = o) (y0 y1 y2 y3 y4 y5 y6 : Value) :
    Blk (((((((w.setCell ⟨g, o, none⟩ y0).setCell ⟨g, o + 1, none⟩ y1).setCell ⟨g, o + 2, none⟩ y2).setCell ⟨g, o + 3, none⟩ y3).setCell ⟨g, o + 4, none⟩ y4).setCell ⟨g, o + 5, none⟩ y5).setCell ⟨g, o + 6, none⟩ y6) g t (A ++ [y0, y1, y2, y3, y4, y5, y6] ++ R) := by
  have := ((((((h.set o y0).set (o + 1) y1).set (o + 2) y2).set (o + 3) y3).set (o + 4) y4).set (o + 5) y5).set (o + 6) y6
  subst ho
  simpa [List.set_append] using this
/-- A node is written over. -/
theorem Par.over {w : World} {B g : Nat} {tv v : Value} {ts : List Tk} {L p : Nat} {N M : List Nd} {y : Nd} (h : Par w B g tv ts L p v (N ++ y :: M)) :
    ∃ gn cap, v = .slice (some ⟨gn, 0, none⟩) (N.length + 1 + M.length) cap ∧ gn ≠ g ∧ (∀ i, i < 7 → ∃ u, w.cell? ⟨gn, N.length * 7 + i, none⟩ = some u) ∧ (∀ i, w.frozen? ⟨gn, i, none⟩ = false) ∧
      ∀ z : Nd, Par (((((((w.setCell ⟨gn, N.length * 7, none⟩ (.int .i64 z.k)).setCell ⟨gn, N.length * 7 + 1, none⟩ (.int .i64 z.n)).setCell ⟨gn, N.length * 7 + 2, none⟩ (.string z.name)).setCell ⟨gn, N.length * 7 + 3, none⟩ (.string z.label)).setCell ⟨gn, N.length * 7 + 4, none⟩ (.int .i64 z.tag)).setCell ⟨gn, N.length * 7 + 5, none⟩ (.int .i64 z.kids)).setCell ⟨gn, N.length * 7 + 6, none⟩ (.int .i64 z.a)) B g tv ts L p v (N ++ z :: M) ∧
        Upd (fun k => v.ownBlock = some k) w (((((((w.setCell ⟨gn, N.length * 7, none⟩ (.int .i64 z.k)).setCell ⟨gn, N.length * 7 + 1, none⟩ (.int .i64 z.n)).setCell ⟨gn, N.length * 7 + 2, none⟩ (.string z.name)).setCell ⟨gn, N.length * 7 + 3, none⟩ (.string z.label)).setCell ⟨gn, N.length * 7 + 4, none⟩ (.int .i64 z.tag)).setCell ⟨gn, N.length * 7 + 5, none⟩ (.int .i64 z.kids)).setCell ⟨gn, N.length * 7 + 6, none⟩ (.int .i64 z.a)) := by
  have hlen : (N ++ y :: M).length = N.length + 1 + M.length := by simp; omega
  obtain ⟨gn, cap, ys, hv, hb, hn, hm, hyl, ht, hK⟩ := ownS_blk h.2.2.1 (by rw [hlen]; omega)
  have hvo : v.ownBlock = some gn := by rw [hv]; rfl
  have hgn : gn ≠ g := h.ne2 hvo
  obtain ⟨R, hR⟩ : ∃ R, ys = cellsN N ++ ndc y ++ R := by
    refine ⟨cellsN M ++ ys.drop ((N ++ y :: M).length * 7), ?_⟩
    have h1 : ys = ys.take ((N ++ y :: M).length * 7) ++ ys.drop ((N ++ y :: M).length * 7) := (List.take_append_drop _ _).symm
    rw [ht] at h1
    refine h1.trans ?_
    have e3 : cellsN (N ++ y :: M) = (cellsN N ++ ndc y) ++ cellsN M := by simp [cellsN]
    rw [e3, List.append_assoc]
  refine ⟨gn, cap, by rw [hv, hlen], hgn, fun i hi => ?_, fun i => hK.frozen i, fun z => ?_⟩
  · rw [hK.cell, hR]
    have : N.length * 7 + i < (cellsN N ++ ndc y ++ R).length := by simp [cellsN_len, ndc_len]; omega
    exact ⟨_, List.getElem?_eq_getElem this⟩
  rw [hR] at hK
  have hK2 := set7 (o := N.length * 7) (w := w) (g := gn) (t := 38) (A := cellsN N) (R := R) (x0 := .int .i64 y.k) (x1 := .int .i64 y.n) (x2 := .string y.name) (x3 := .string y.label) (x4 := .int .i64 y.tag) (x5 := .int .i64 y.kids) (x6 := .int .i64 y.a) hK (cellsN_len N) (.int .i64 z.k) (.int .i64 z.n) (.string z.name) (.string z.label) (.int .i64 z.tag) (.int .i64 z.kids) (.int .i64 z.a)
  have hU : Upd (fun k => v.ownBlock = some k) w (((((((w.setCell ⟨gn, N.length * 7, none⟩ (.int .i64 z.k)).setCell ⟨gn, N.length * 7 + 1, none⟩ (.int .i64 z.n)).setCell ⟨gn, N.length * 7 + 2, none⟩ (.string z.name)).setCell ⟨gn, N.length * 7 + 3, none⟩ (.string z.label)).setCell ⟨gn, N.length * 7 + 4, none⟩ (.int .i64 z.tag)).setCell ⟨gn, N.length * 7 + 5, none⟩ (.int .i64 z.kids)).setCell ⟨gn, N.length * 7 + 6, none⟩ (.int .i64 z.a)) :=
    (((((((Upd.refl (fun k => v.ownBlock = some k) w).set ⟨gn, N.length * 7, none⟩ _ (.inl hvo)).set ⟨gn, N.length * 7 + 1, none⟩ _ (.inl hvo)).set ⟨gn, N.length * 7 + 2, none⟩ _ (.inl hvo)).set ⟨gn, N.length * 7 + 3, none⟩ _ (.inl hvo)).set ⟨gn, N.length * 7 + 4, none⟩ _ (.inl hvo)).set ⟨gn, N.length * 7 + 5, none⟩ _ (.inl hvo)).set ⟨gn, N.length * 7 + 6, none⟩ _ (.inl hvo)
  refine ⟨⟨h.1.upd hU (fun e => h.ne2 e rfl), ownS_upd h.2.1 hU (fun k hk => h.ne3 hk), ?_, h.2.2.2⟩, hU⟩
  have hyl2 : (cellsN N ++ ndc z ++ R).length = cap * 7 := by
    rw [hR] at hyl
    simp [ndc_len] at hyl ⊢
    exact hyl
  have hres := ownS_of_blk (B := B) (n := (N ++ z :: M).length) (c := 7) (cap := cap) hK2 hb hyl2 (by rw [hlen] at hn; simp; omega) hm
  have htk : (cellsN N ++ ndc z ++ R).take ((N ++ z :: M).length * 7) = cellsN (N ++ z :: M) := by
    rw [hR] at ht
    have e1 : (N ++ y :: M).length * 7 = (cellsN N ++ ndc y).length + M.length * 7 := by simp [cellsN_len, ndc_len]; omega
    have e2 : (N ++ z :: M).length * 7 = (cellsN N ++ ndc z).length + M.length * 7 := by simp [cellsN_len, ndc_len]; omega
    rw [e1, List.take_length_add_append] at ht
    rw [e2, List.take_length_add_append]
    have e3 : cellsN (N ++ y :: M) = (cellsN N ++ ndc y) ++ cellsN M := by simp [cellsN]
    have e4 : cellsN (N ++ z :: M) = (cellsN N ++ ndc z) ++ cellsN M := by simp [cellsN]
    rw [e3] at ht
    rw [e4, List.append_cancel_left ht]
  have hv2 : v = .slice (some ⟨gn, 0, none⟩) (N ++ z :: M).length cap := by rw [hv]; simp
  rw [hv2]
  rw [← htk]
  exact hres
end Go.Proofs.YtafljgjkcnbhbaaDoor

/- node. -/
namespace Go.Proofs.YtafljgjkcnbhbaaDoor
open Go.RowKit
set_option linter.unusedVariables false

/-- node's frame: the parser, what its closures catch, the node under way, its first token. -/
def Fr (W : World) (B g bp bx bd bf : Nat) (tv : Value) (ts : List Tk) (L p : Nat) (v : Value) (N : List Nd) (y : Nd) (T : Tk) (d : Nat) : Prop :=
  Par W B g tv ts L p v N ∧ Boxes W bp bd g d ∧ Blk W bx 38 (ndc y) ∧ Blk W bf 72 (tkc T) ∧ (∀ k, v.ownBlock = some k → k ≠ bx)
section
variable {W W' : World} {B g bp bx bd bf : Nat} {tv v v' : Value} {ts : List Tk} {L p p' : Nat} {N N' : List Nd} {y : Nd} {T : Tk} {d : Nat}
theorem Fr.ne (h : Fr W B g bp bx bd bf tv ts L p v N y T d) : g ≠ bx := fun e => by
  subst e
  exact absurd (blk_type h.1.1 h.2.2.1) (by decide)
theorem Fr.mv (h : Fr W B g bp bx bd bf tv ts L p v N y T d) (m : Mv g v v' W W') (hP : Par W' B g tv ts L p' v' N') : Fr W' B g bp bx bd bf tv ts L p' v' N' y T d := by
  refine ⟨hP, h.2.1.upd h.1 m.1, h.2.2.1.upd m.1 ?_, h.2.2.2.1.upd m.1 ?_, fun k hk => ?_⟩
  · rintro (e | e)
    · exact h.ne e.symm
    · exact h.2.2.2.2 _ e rfl
  · rintro (e | e)
    · subst e; exact absurd (blk_type h.1.1 h.2.2.2.1) (by decide)
    · obtain ⟨ys, hy⟩ := ownS_type h.1.2.2.1 e
      exact absurd (blk_type hy h.2.2.2.1) (by decide)
  · rcases m.2 k hk with h1 | h1
    · exact h.2.2.2.2 k h1
    · have := h.2.2.1.lt; omega
theorem Fr.set (h : Fr W B g bp bx bd bf tv ts L p v N y T d) (i : Nat) (u : Value) (y' : Nd) (hy : (ndc y).set i u = ndc y') : Fr (W.setCell ⟨bx, i, none⟩ u) B g bp bx bd bf tv ts L p v N y' T d := by
  have hU : Upd (fun k => k = bx) W (W.setCell ⟨bx, i, none⟩ u) := (Upd.refl _ W).set _ _ (.inl rfl)
  refine ⟨h.1.upd hU h.ne (fun k hk e => ?_) h.2.2.2.2, ⟨h.2.1.1.upd hU (fun e => ?_), h.2.1.2.upd hU (fun e => ?_)⟩, ?_, h.2.2.2.1.upd hU (fun e => ?_), h.2.2.2.2⟩
  · subst e
    obtain ⟨ys, hz⟩ := ownS_type h.1.2.1 hk
    exact absurd (blk_type hz h.2.2.1) (by decide)
  · subst e; exact absurd (blk_type h.2.1.1 h.2.2.1) (by decide)
  · subst e; exact absurd (blk_type h.2.1.2 h.2.2.1) (by decide)
  · rw [← hy]; exact h.2.2.1.set i u
  · subst e; exact absurd (blk_type h.2.2.2.1 h.2.2.1) (by decide)
end
theorem Mv.setx {g : Nat} {v v' : Value} {w W : World} (h : Mv g v v' w W) (a : Addr) (u : Value) (hb : w.heap.size ≤ a.block) : Mv g v v' w (W.setCell a u) := ⟨h.1.set a u (.inr hb), h.2⟩
/-- The frame as it is laid: boxes, the first token, then its kind and number. -/
theorem fr_begin {w w2 : World} {B g : Nat} {tv v : Value} {ts : List Tk} {L p : Nat} {N : List Nd} {x : Nd} {d : Nat} (HP : Par w B g tv ts L p v N)
    (hB : Below (((w.alloc (.cells #[.pointer (some ⟨g, 0, none⟩)] 75)).alloc (.cells #[.int .i64 x.k, .int .i64 x.n, .string x.name, .string x.label, .int .i64 x.tag, .int .i64 x.kids, .int .i64 x.a] 38)).alloc (.cells #[.int .i64 (d : Int)] 3)).heap.size (((w.alloc (.cells #[.pointer (some ⟨g, 0, none⟩)] 75)).alloc (.cells #[.int .i64 x.k, .int .i64 x.n, .string x.name, .string x.label, .int .i64 x.tag, .int .i64 x.kids, .int .i64 x.a] 38)).alloc (.cells #[.int .i64 (d : Int)] 3)) w2) (T : Tk) :
    Fr (w2.alloc (.cells #[.int .i64 T.k, .string T.t, .int .i64 T.n, .int .i64 T.a, .int .i64 T.e] 72)) B g w.heap.size (w.heap.size + 1) (w.heap.size + 1 + 1) w2.heap.size tv ts L p v N x T d ∧
    Mv g v v w (w2.alloc (.cells #[.int .i64 T.k, .string T.t, .int .i64 T.n, .int .i64 T.a, .int .i64 T.e] 72)) := by
  have k1 := Blk.newA w #[.pointer (some ⟨g, 0, none⟩)] 75
  have b1 := (Below.refl w.heap.size w).alloc (Nat.le_refl _) (.cells #[.pointer (some ⟨g, 0, none⟩)] 75)
  obtain ⟨w1, hw1⟩ : ∃ w1, w1 = w.alloc (.cells #[.pointer (some ⟨g, 0, none⟩)] 75) := ⟨_, rfl⟩
  have s1 : w1.heap.size = w.heap.size + 1 := by rw [hw1]; simp
  rw [← hw1] at k1 b1 hB
  have k2 := Blk.newA w1 #[.int .i64 x.k, .int .i64 x.n, .string x.name, .string x.label, .int .i64 x.tag, .int .i64 x.kids, .int .i64 x.a] 38
  have b2 := b1.alloc (by omega) (.cells #[.int .i64 x.k, .int .i64 x.n, .string x.name, .string x.label, .int .i64 x.tag, .int .i64 x.kids, .int .i64 x.a] 38)
  have k1b := k1.alloc (.cells #[.int .i64 x.k, .int .i64 x.n, .string x.name, .string x.label, .int .i64 x.tag, .int .i64 x.kids, .int .i64 x.a] 38)
  obtain ⟨wb, hwb⟩ : ∃ wb, wb = w1.alloc (.cells #[.int .i64 x.k, .int .i64 x.n, .string x.name, .string x.label, .int .i64 x.tag, .int .i64 x.kids, .int .i64 x.a] 38) := ⟨_, rfl⟩
  have s2 : wb.heap.size = w.heap.size + 2 := by rw [hwb]; simp [s1]
  rw [← hwb] at k2 b2 k1b hB
  have k3 := Blk.newA wb #[.int .i64 (d : Int)] 3
  have b3 := b2.alloc (by omega) (.cells #[.int .i64 (d : Int)] 3)
  have k1c := k1b.alloc (.cells #[.int .i64 (d : Int)] 3)
  have k2c := k2.alloc (.cells #[.int .i64 (d : Int)] 3)
  obtain ⟨wc, hwc⟩ : ∃ wc, wc = wb.alloc (.cells #[.int .i64 (d : Int)] 3) := ⟨_, rfl⟩
  have s3 : wc.heap.size = w.heap.size + 3 := by rw [hwc]; simp [s2]
  rw [← hwc] at k3 b3 k1c k2c hB
  have b4 := b3.trans (hB.mono (by omega))
  have b5 := b4.alloc b4.size (.cells #[.int .i64 T.k, .string T.t, .int .i64 T.n, .int .i64 T.a, .int .i64 T.e] 72)
  have kf := Blk.newA w2 #[.int .i64 T.k, .string T.t, .int .i64 T.n, .int .i64 T.a, .int .i64 T.e] 72
  rw [s1] at k2c
  rw [show wb.heap.size = w.heap.size + 1 + 1 from s2] at k3
  refine ⟨⟨HP.later b5, ⟨(k1c.later hB).alloc _, (k3.later hB).alloc _⟩, (k2c.later hB).alloc _, kf, fun k hk => ?_⟩, Mv.of_below b5 g v⟩
  have := own_lt HP.2.2.1 hk
  omega
end Go.Proofs.YtafljgjkcnbhbaaDoor

/- node's walk. -/
namespace Go.Proofs.YtafljgjkcnbhbaaDoor
open Go.RowKit
set_option linter.unusedVariables false

set_option maxRecDepth 100000 in
set_option maxHeartbeats 8000000 in
theorem node_zero : NodeOk 0 := by
  intro w B g tv v ts L p N x d HP hl hd
  obtain ⟨r, hr⟩ : ∃ r, nodeP (ts.map core) 0 x p = r := ⟨_, rfl⟩
  have HR := hide_ hr
  rw [hr]
  clear hr
  have HTk : Hid (∀ W, Hid (Par W B g tv ts L p v N) → Calls Tryd.prog 55 #[.pointer (some ⟨g, 0, none⟩)] W fun e w' => e = .returned (tkv (tkAt ts L p)) ∧ Below W.heap.size W w') := fun W h => token_any h
  have HQ : Hid (core (tkAt ts L p) = qAt (ts.map core) p) := (core_at ts L p).symm
  have HPl : Hid (plc ts L p = (tkAt ts L p).a) := rfl
  have HLt : Hid ((tkAt ts L p).t ≠ ⟨#[]⟩ → p < ts.length) := fun h => tk_lt HP.out.2.2.2.2.1 (.inl h)
  obtain ⟨T, hT⟩ : ∃ T, tkAt ts L p = T := ⟨_, rfl⟩
  rw [hT] at HTk HQ HPl HLt
  clear hT
  have HBg : Hid (∀ W, Calls Tryd.prog 73 #[.string T.t] W fun e w' => e = .returned (.tuple #[.int .i64 (beg T.t).1, .int .i64 (beg T.t).2]) ∧ W = w') := fun W => begins_any T.t W
  have HBe : Hid (beg T.t = beg (qAt (ts.map core) p).t) := by show _ = _; rw [← HQ.out]; rfl
  have HNe : Hid ((beg T.t).1 ≠ 0 → p < ts.length) := fun h => HLt.out (fun e => h (by rw [e]; decide))
  have HQt : Hid (T.t = (qAt (ts.map core) p).t) := by show _ = _; rw [← HQ.out]; rfl
  obtain ⟨kk, nn, hkn⟩ : ∃ kk nn, beg T.t = (kk, nn) := ⟨_, _, rfl⟩
  rw [hkn] at HBg HBe HNe
  have HKN := hide_ hkn
  clear hkn
  obtain ⟨X, hX⟩ : ∃ X, ndP ts L x = X := ⟨_, rfl⟩
  have HXX := hide_ hX
  rw [hX]
  clear hX
  have HPw : Hid (Par (((w.alloc (.cells #[.pointer (some ⟨g, 0, none⟩)] 75)).alloc (.cells #[.int .i64 X.k, .int .i64 X.n, .string X.name, .string X.label, .int .i64 X.tag, .int .i64 X.kids, .int .i64 X.a] 38)).alloc (.cells #[.int .i64 (d : Int)] 3)) B g tv ts L p v N) := hide_ (HP.out.later (((((Below.refl w.heap.size w).alloc (Nat.le_refl _) _).alloc (by simp) _).alloc (by simp <;> omega) _)))
  have hwl := HP.out.1.lt
  unfold ndv
  go_enter Tryd.func66, Tryd.ntmps66
  go_wp2_with fail
  refine (HTk.out _ HPw).mono ?_; rintro e w2 ⟨rfl, hB2⟩
  obtain ⟨hF, hM⟩ := fr_begin HP.out hB2 T
  have hsz : w.heap.size + 3 ≤ w2.heap.size := by have := hB2.size; simp at this; omega
  clear hB2 HPw HTk
  have HFr := hide_ hF
  have HMv := hide_ hM
  clear hF hM
  obtain ⟨w3, hw3⟩ : ∃ w3, w3 = w2.alloc (.cells #[.int .i64 T.k, .string T.t, .int .i64 T.n, .int .i64 T.a, .int .i64 T.e] 72) := ⟨_, rfl⟩
  rw [← hw3] at HFr HMv
  unfold tkv
  have f1 := HFr.out.2.2.2.1.cell 1
  simp [tkc] at f1
  go_upto_region 2 with fail
  rw [← hw3]
  clear hw3
  have x0 := HFr.out.2.2.1.cell 0; have x1 := HFr.out.2.2.1.cell 1
  have z0 := HFr.out.2.2.1.frozen 0; have z1 := HFr.out.2.2.1.frozen 1
  simp [ndc] at x0 x1
  go_wp2_with fail
  refine (HBg.out w3).mono ?_; rintro e w4 ⟨rfl, rfl⟩
  have HF4 := hide_ ((HFr.out.set 0 (.int .i64 kk) { X with k := kk } rfl).set 1 (.int .i64 nn) { X with k := kk, n := nn } rfl)
  have HM4 := hide_ ((HMv.out.setx ⟨w.heap.size + 1, 0, none⟩ (.int .i64 kk) (by show w.heap.size ≤ w.heap.size + 1; omega)).setx ⟨w.heap.size + 1, 1, none⟩ (.int .i64 nn) (by show w.heap.size ≤ w.heap.size + 1; omega))
  have b0 := HFr.out.2.1.1.cell 0
  simp at b0
  have n1 : ¬ w.heap.size = w.heap.size + 1 := by omega
  by_cases h0 : kk = 0
  · subst h0
    have HPt := hide_ HF4.out.1
    go_wp2_with fail
    refine (take_any HPt false (fun h => by cases h)).mono ?_; rintro e w5 (⟨i5, hj, rfl, HP5, HU⟩ | ⟨y, hy, rfl, HU⟩)
    · exfalso; cases hj
    · obtain rfl : (60, p) = y := by injection (show (Except.error (60, p) : PR Nat) = .error y from hy)
      clear hy
      unfold Flt
      go_wp2
      exact ⟨rfl, .inr ⟨(60, p), by rw [← HR.out]; unfold nodeP; rw [← HBe.out]; rfl, rfl, hide_ (HM4.out.upd (Mv.of HU.out v).1)⟩⟩
  have hb0 : (kk != 0) = true := by simpa using h0
  have HPt := hide_ HF4.out.1
  have hpl : p < ts.length := HNe.out h0
  go_wp2_with fail
  refine (take_any HPt true (fun _ => hpl)).mono ?_; rintro e w5 (⟨i5, hj, rfl, HP5, HU⟩ | ⟨y, hy, rfl, HU⟩)
  case inr => exfalso; cases hy
  have hi5 : i5 = p + 1 := by injection hj with hj; exact hj.symm
  subst hi5
  have HF5 := hide_ (HF4.out.mv (Mv.of HU.out v) HP5.out)
  have HM5 := hide_ (HM4.out.then HU.out)
  clear hj HU HF4 HM4 HFr HMv x0 x1 z0 z1 f1 b0 HP5 HPt hb0
  have g0 := HF5.out.2.1.2.cell 0
  have g3 := HF5.out.2.2.2.1.cell 3
  simp [tkc] at g0 g3
  have hd17 : (16 : Int) < d := by omega
  have HG := hide_ (fun W => giveUp_any 61 T.a W)
  go_wp2_with fail
  refine (HG.out _).mono ?_; rintro e w6 ⟨rfl, rfl⟩
  unfold Flt
  go_wp2
  exact ⟨rfl, .inr ⟨(61, p), by rw [← HR.out]; unfold nodeP; rw [← HBe.out, if_neg h0], by rw [HPl.out]; rfl, hide_ HM5.out.1⟩⟩
end Go.Proofs.YtafljgjkcnbhbaaDoor

/- node's walk, one level up. -/
namespace Go.Proofs.YtafljgjkcnbhbaaDoor
open Go.RowKit
set_option linter.unusedVariables false

theorem own_slice {w : World} {B n c : Nat} {e : TypeId} {v : Value} {xs : List Value} (h : w.ownsRow B e c v n xs) : ∃ a cap, v = .slice a n cap := by
  rcases h.2 with ⟨rfl, hn⟩ | ⟨g, cap, cur, rfl, _⟩
  · exact ⟨none, 0, by rw [hn]⟩
  · exact ⟨_, _, rfl⟩
theorem Mv.over {g : Nat} {v v' : Value} {w W W' : World} (h : Mv g v v' w W) (hu : Upd (fun k => v'.ownBlock = some k) W W') : Mv g v v' w W' := h.trans ⟨hu.mono (fun _ _ h => .inr h), fun _ h => .inl h⟩
theorem Mv.drewM {g : Nat} {v v' : Value} {w W : World} (h : Mv g v v' w W) : Mv g v v' w W.drew := ⟨h.1.drew, h.2⟩
theorem cell_al (w : World) (o : Obj) (b i : Nat) (h : b < w.heap.size) : (w.alloc o).cell? ⟨b, i, none⟩ = w.cell? ⟨b, i, none⟩ := World.cell?_of_block (Below.heap_alloc w o b h)
set_option maxRecDepth 100000 in
set_option maxHeartbeats 8000000 in
theorem node_succ (f : Nat) (hN : Hid (NodeOk f)) : NodeOk (f + 1) := by
  intro w B g tv v ts L p N x d HP hl hd
  obtain ⟨r, hr⟩ : ∃ r, nodeP (ts.map core) (f + 1) x p = r := ⟨_, rfl⟩
  have HR := hide_ hr
  rw [hr]
  clear hr
  have HTk : Hid (∀ W, Hid (Par W B g tv ts L p v N) → Calls Tryd.prog 55 #[.pointer (some ⟨g, 0, none⟩)] W fun e w' => e = .returned (tkv (tkAt ts L p)) ∧ Below W.heap.size W w') := fun W h => token_any h
  have HQ : Hid (core (tkAt ts L p) = qAt (ts.map core) p) := (core_at ts L p).symm
  have HPl : Hid (plc ts L p = (tkAt ts L p).a) := rfl
  have HLt : Hid ((tkAt ts L p).t ≠ ⟨#[]⟩ → p < ts.length) := fun h => tk_lt HP.out.2.2.2.2.1 (.inl h)
  obtain ⟨T, hT⟩ : ∃ T, tkAt ts L p = T := ⟨_, rfl⟩
  rw [hT] at HTk HQ HPl HLt
  clear hT
  have HBg : Hid (∀ W, Calls Tryd.prog 73 #[.string T.t] W fun e w' => e = .returned (.tuple #[.int .i64 (beg T.t).1, .int .i64 (beg T.t).2]) ∧ W = w') := fun W => begins_any T.t W
  have HBe : Hid (beg T.t = beg (qAt (ts.map core) p).t) := by show _ = _; rw [← HQ.out]; rfl
  have HNe : Hid ((beg T.t).1 ≠ 0 → p < ts.length) := fun h => HLt.out (fun e => h (by rw [e]; decide))
  have HQt : Hid (T.t = (qAt (ts.map core) p).t) := by show _ = _; rw [← HQ.out]; rfl
  obtain ⟨kk, nn, hkn⟩ : ∃ kk nn, beg T.t = (kk, nn) := ⟨_, _, rfl⟩
  rw [hkn] at HBg HBe HNe
  have HKN := hide_ hkn
  clear hkn
  obtain ⟨X, hX⟩ : ∃ X, ndP ts L x = X := ⟨_, rfl⟩
  have HXX := hide_ hX
  rw [hX]
  clear hX
  have HPw : Hid (Par (((w.alloc (.cells #[.pointer (some ⟨g, 0, none⟩)] 75)).alloc (.cells #[.int .i64 X.k, .int .i64 X.n, .string X.name, .string X.label, .int .i64 X.tag, .int .i64 X.kids, .int .i64 X.a] 38)).alloc (.cells #[.int .i64 (d : Int)] 3)) B g tv ts L p v N) := hide_ (HP.out.later (((((Below.refl w.heap.size w).alloc (Nat.le_refl _) _).alloc (by simp) _).alloc (by simp <;> omega) _)))
  have hwl := HP.out.1.lt
  unfold ndv
  go_enter Tryd.func66, Tryd.ntmps66
  go_wp2_with fail
  refine (HTk.out _ HPw).mono ?_; rintro e w2 ⟨rfl, hB2⟩
  obtain ⟨hF, hM⟩ := fr_begin HP.out hB2 T
  have hsz : w.heap.size + 3 ≤ w2.heap.size := by have := hB2.size; simp at this; omega
  clear hB2 HPw HTk
  have HFr := hide_ hF
  have HMv := hide_ hM
  clear hF hM
  obtain ⟨w3, hw3⟩ : ∃ w3, w3 = w2.alloc (.cells #[.int .i64 T.k, .string T.t, .int .i64 T.n, .int .i64 T.a, .int .i64 T.e] 72) := ⟨_, rfl⟩
  rw [← hw3] at HFr HMv
  unfold tkv
  have f1 := HFr.out.2.2.2.1.cell 1
  simp [tkc] at f1
  go_upto_region 2 with fail
  rw [← hw3]
  clear hw3
  have x0 := HFr.out.2.2.1.cell 0; have x1 := HFr.out.2.2.1.cell 1
  have z0 := HFr.out.2.2.1.frozen 0; have z1 := HFr.out.2.2.1.frozen 1
  simp [ndc] at x0 x1
  go_wp2_with fail
  refine (HBg.out w3).mono ?_; rintro e w4 ⟨rfl, rfl⟩
  have HF4 := hide_ ((HFr.out.set 0 (.int .i64 kk) { X with k := kk } rfl).set 1 (.int .i64 nn) { X with k := kk, n := nn } rfl)
  have HM4 := hide_ ((HMv.out.setx ⟨w.heap.size + 1, 0, none⟩ (.int .i64 kk) (by show w.heap.size ≤ w.heap.size + 1; omega)).setx ⟨w.heap.size + 1, 1, none⟩ (.int .i64 nn) (by show w.heap.size ≤ w.heap.size + 1; omega))
  have b0 := HFr.out.2.1.1.cell 0
  simp at b0
  have n1 : ¬ w.heap.size = w.heap.size + 1 := by omega
  by_cases h0 : kk = 0
  · subst h0
    have HPt := hide_ HF4.out.1
    go_wp2_with fail
    refine (take_any HPt false (fun h => by cases h)).mono ?_; rintro e w5 (⟨i5, hj, rfl, HP5, HU⟩ | ⟨y, hy, rfl, HU⟩)
    · exfalso; cases hj
    · obtain rfl : (60, p) = y := by injection (show (Except.error (60, p) : PR Nat) = .error y from hy)
      clear hy
      unfold Flt
      go_wp2
      exact ⟨rfl, .inr ⟨(60, p), by rw [← HR.out]; unfold nodeP; rw [← HBe.out]; rfl, rfl, hide_ (HM4.out.upd (Mv.of HU.out v).1)⟩⟩
  have hb0 : (kk != 0) = true := by simpa using h0
  have HPt := hide_ HF4.out.1
  have hpl : p < ts.length := HNe.out h0
  go_wp2_with fail
  refine (take_any HPt true (fun _ => hpl)).mono ?_; rintro e w5 (⟨i5, hj, rfl, HP5, HU⟩ | ⟨y, hy, rfl, HU⟩)
  case inr => exfalso; cases hy
  have hi5 : i5 = p + 1 := by injection hj with hj; exact hj.symm
  subst hi5
  have HF5 := hide_ (HF4.out.mv (Mv.of HU.out v) HP5.out)
  have HM5 := hide_ (HM4.out.then HU.out)
  clear hj HU HF4 HM4 HFr HMv x0 x1 z0 z1 f1 b0 HP5 HPt hb0
  have g0 := HF5.out.2.1.2.cell 0
  have g3 := HF5.out.1.1.cell 3
  simp at g0 g3
  have hd16 : (d : Int) ≤ 16 := by omega
  have hd16' : ¬ (16 : Int) < d := by omega
  have hlt := HP.out.2.2.2.2.2
  obtain ⟨va, vc, hva⟩ := own_slice HF5.out.1.2.2.1
  have b0 := HF5.out.2.1.1.cell 0
  simp at b0
  have hN65 : N.length ≤ 65536 := by omega
  obtain ⟨gn, cap, w6, R6, U6, C6, P6⟩ := Par.push (w := w5.drew) (y := { X with k := kk, n := nn }) HF5.out.1 hN65
  have x0 := HF5.out.2.2.1.cell 0; have x1 := HF5.out.2.2.1.cell 1; have x2 := HF5.out.2.2.1.cell 2; have x3 := HF5.out.2.2.1.cell 3; have x4 := HF5.out.2.2.1.cell 4; have x5 := HF5.out.2.2.1.cell 5; have x6 := HF5.out.2.2.1.cell 6
  simp [ndc] at x0 x1 x2 x3 x4 x5 x6
  have HMa : Mv g v (.slice (some ⟨gn, 0, none⟩) (N.length + 1) cap) w5 (w6.setCell ⟨g, 3, none⟩ (.slice (some ⟨gn, 0, none⟩) (N.length + 1) cap)) :=
    ⟨(Upd.mono ((Upd.refl (fun k => v.ownBlock = some k) w5).drew.trans U6 (fun _ _ h => h)) (fun _ _ h => .inr h)).set _ _ (.inl (.inl rfl)), fun k hk => by
      have e := own_is hk
      subst e
      exact C6⟩
  have HF6 := hide_ (HF5.out.mv HMa P6)
  have HM6 := hide_ (HM5.out.trans HMa)
  have e1 : w6.cell? ⟨w.heap.size, 0, none⟩ = some (.pointer (some ⟨g, 0, none⟩)) := (World.cell?_of_block (w := w5) (U6.block _ HF5.out.2.1.1.lt (fun e => by
      obtain ⟨ys, hy⟩ := ownS_type HF5.out.1.2.2.1 e
      exact absurd (blk_type hy HF5.out.2.1.1) (by decide)))).trans b0
  have K6 : Blk w6 g 57 [tv, .int .i64 ((p + 1 : Nat) : Int), .int .i64 L, v] := (show Blk w5.drew g 57 [tv, .int .i64 ((p + 1 : Nat) : Int), .int .i64 L, v] from HF5.out.1.1).upd U6 (fun e => HF5.out.1.ne2 e rfl)
  have e2 := K6.cell 3
  have z2 := K6.frozen 3
  simp at e2
  have b0a : ∀ ob, (w5.alloc ob).cell? ⟨w.heap.size, 0, none⟩ = some (.pointer (some ⟨g, 0, none⟩)) := fun ob => (cell_al w5 ob _ _ HF5.out.2.1.1.lt).trans b0
  have g3a : ∀ ob, (w5.alloc ob).cell? ⟨g, 3, none⟩ = some v := fun ob => (cell_al w5 ob _ _ HF5.out.1.1.lt).trans g3
  have R7 : Hid ((Builtin.append_ #[39, 39] 39 #[v, .slice (some ⟨w5.heap.size, 0, none⟩) 1 1]).run Tryd.prog (w5.alloc (.cells #[.int .i64 kk, .int .i64 nn, .string X.name, .string X.label, .int .i64 X.tag, .int .i64 X.kids, .int .i64 X.a] 38)).drew = .ok (.slice (some ⟨gn, 0, none⟩) (N.length + 1) cap) w6) := R6
  clear R6 U6 C6 P6 HMa HF5 HM5 K6
  subst hva
  have hB5 := HF6.out.2.2.1.lt
  go_upto_region 7 with fail
  go_cut [40] from 33 to 42 (fun x40 wc => ∃ v6, Hid (Fr wc B g w.heap.size (w.heap.size + 1) (w.heap.size + 1 + 1) w2.heap.size tv ts L (p + 1) v6 (N ++ [{ X with k := kk, n := nn }]) { X with k := kk, n := nn } T d) ∧ Hid (Mv g (.slice va N.length vc) v6 w wc))
  case first =>
    go_wp2_with fail
    go_region_law (refine step_append_run rfl (.tmp 37) (.tmp 39) 39 39 rfl rfl rfl R7.out ?_)
    all_goals
      go_wp2
      go_meet
      case rel => exact ⟨_, HF6, HM6⟩
  case rest =>
    clear HF6 HM6 R7 g3a e1 e2 z2 x0 x1 x2 x3 x4 x5 x6 b0 b0a g0 g3 hB5
    obtain ⟨v6, HF6, HM6⟩ := hcut
    have k0 := HF6.out.2.2.1.cell 0
    simp [ndc] at k0
    have HRb : Hid (r = bodyP (ts.map core) (nodeP (ts.map core) f) { x with k := kk, n := nn } p) := by
      show _ = _
      rw [← HR.out]
      unfold nodeP
      rw [← HBe.out, if_neg h0]
    have HY : Hid (∀ (a b : Int) (c : ByteArray) (e : Int), ndP ts L { x with k := a, n := b, name := c, kids := e } = { X with k := a, n := b, name := c, kids := e }) := fun a b c e => by rw [← HXX.out]; rfl
    have HYn : Hid (X.name = x.name ∧ X.kids = x.kids) := ⟨by rw [← HXX.out]; rfl, by rw [← HXX.out]; rfl⟩
    have hmf : ∀ (fn : Fn) (first cap : Array Value) (w : World), (Instr.makeFunc fn first cap).run Tryd.prog w = .ok (.func fn first cap) w := fun _ _ _ _ => rfl
    have HD : Hid ((d : Int) + 1 = ((d + 1 : Nat) : Int)) := by show _ = _; omega
    have hdf : d + 1 + f = 17 := by omega
    have b0 := HF6.out.2.1.1.cell 0
    have b1 := HF6.out.2.1.2.cell 0
    simp at b0 b1
    have HP6 := hide_ HF6.out.1
    have hl6 : (N ++ [({ X with k := kk, n := nn } : Nd)]).length ≤ p + 1 := by simp; omega
    by_cases h9 : kk = 9
    · subst h9
      have HF7 := hide_ (HF6.out.set 2 (.string T.t) { X with k := 9, n := nn, name := T.t } rfl)
      have HM7 := hide_ (HM6.out.setx ⟨w.heap.size + 1, 2, none⟩ (.string T.t) (by show w.heap.size ≤ w.heap.size + 1; omega))
      have t1 := HF6.out.2.2.2.1.cell 1
      have s2 := HF6.out.2.2.1.cell 2
      have q2 := HF6.out.2.2.1.frozen 2
      simp [tkc, ndc] at t1 s2
      go_upto_region 21 with fail
      clear t1 s2 q2 k0 b0 b1
      obtain ⟨W, hW⟩ : ∃ W, wc.setCell ⟨w.heap.size + 1, 2, none⟩ (.string T.t) = W := ⟨_, rfl⟩
      rw [hW] at HF7 HM7 ⊢
      obtain ⟨gz, cz, hvz, hgz, hcs, hfz, hov⟩ := Par.over HF7.out.1
      have p0 := HF7.out.2.1.1.cell 0
      have p3 := HF7.out.1.1.cell 3
      have y0 := HF7.out.2.2.1.cell 0; have y1 := HF7.out.2.2.1.cell 1; have y2 := HF7.out.2.2.1.cell 2; have y3 := HF7.out.2.2.1.cell 3; have y4 := HF7.out.2.2.1.cell 4; have y5 := HF7.out.2.2.1.cell 5; have y6 := HF7.out.2.2.1.cell 6
      simp [ndc] at p0 p3 y0 y1 y2 y3 y4 y5 y6
      rw [hvz] at p3
      obtain ⟨c0, hc0⟩ := hcs 0 (by decide); obtain ⟨c1, hc1⟩ := hcs 1 (by decide); obtain ⟨c2, hc2⟩ := hcs 2 (by decide); obtain ⟨c3, hc3⟩ := hcs 3 (by decide); obtain ⟨c4, hc4⟩ := hcs 4 (by decide); obtain ⟨c5, hc5⟩ := hcs 5 (by decide); obtain ⟨c6, hc6⟩ := hcs 6 (by decide)
      have z0 := hfz (N.length * 7); have z1 := hfz (N.length * 7 + 1); have z2 := hfz (N.length * 7 + 2); have z3 := hfz (N.length * 7 + 3); have z4 := hfz (N.length * 7 + 4); have z5 := hfz (N.length * 7 + 5); have z6 := hfz (N.length * 7 + 6)
      simp at hc0 hc1 hc2 hc3 hc4 hc5 hc6 z0 z1 z2 z3 z4 z5 z6
      obtain ⟨hP9, hU9⟩ := hov { X with k := 9, n := nn, name := T.t }
      have HP9 := hide_ (hP9.later ((Below.refl _ _).drew))
      have HM9 := hide_ ((HM7.out.over hU9).drewM)
      have hlz : (N.length : Int) < (N.length : Int) + 1 + ((([] : List Nd)).length : Int) := by omega
      have hlz2 : N.length < N.length + 1 + (([] : List Nd)).length := by omega
      clear hcs hfz hov hP9 hU9 hvz
      simp only [List.length_nil, Nat.add_zero, Int.natCast_zero, Int.add_zero] at hlz hlz2 p3
      go_wp2_with fail
      go_region
      go_wp2
      go_end0
      have HLs : Hid (N ++ ([{ x with k := 9, n := nn, name := T.t }]).map (ndP ts L) = N ++ { X with k := 9, n := nn, name := T.t } :: ([] : List Nd)) := by show _ = _; rw [← HXX.out]; rfl
      exact .inl ⟨[{ x with k := 9, n := nn, name := T.t }], p + 1, v6, by rw [HRb.out]; unfold bodyP; rw [if_pos rfl, ← HQt.out], rfl, hide_ (by rw [HLs.out]; exact ⟨HP9.out, by simp; omega⟩), HM9⟩
    by_cases h4 : kk = 4
    · subst h4
      go_wp2_with fail
      rw [HD.out]
      refine (items_any hN HP6 hl6 (d + 1) hdf).mono ?_; rintro e w7 (⟨M, n7, j7, v7, hj, rfl, HPx, HMx⟩ | ⟨y, hy, rfl, HU⟩)
      case inr =>
        have HJ := hide_ hy
        clear hy
        unfold Flt
        go_wp2
        exact ⟨rfl, .inr ⟨y, by rw [HRb.out]; unfold bodyP; rw [if_neg (by simp), if_pos (by simp), HJ.out]; rfl, rfl, hide_ (HM6.out.upd HU.out)⟩⟩
      have HJ := hide_ hj
      have HF7 := hide_ (((HF6.out.mv HMx.out HPx.out.1).set 1 (.int .i64 n7) { X with k := 4, n := n7 } rfl).set 5 (.int .i64 1) { X with k := 4, n := n7, kids := 1 } rfl)
      have HM7 := hide_ (((HM6.out.trans HMx.out).setx ⟨w.heap.size + 1, 1, none⟩ (.int .i64 n7) (by show w.heap.size ≤ w.heap.size + 1; omega)).setx ⟨w.heap.size + 1, 5, none⟩ (.int .i64 1) (by show w.heap.size ≤ w.heap.size + 1; omega))
      have hl7 := HPx.out.2
      have s1 := (HF6.out.mv HMx.out HPx.out.1).2.2.1.cell 1
      have q1 := (HF6.out.mv HMx.out HPx.out.1).2.2.1.frozen 1
      have s5 := (HF6.out.mv HMx.out HPx.out.1).2.2.1.cell 5
      have q5 := (HF6.out.mv HMx.out HPx.out.1).2.2.1.frozen 5
      simp [ndc] at s1 s5
      clear hj HPx HMx k0 b0 b1
      go_upto_region 21 with fail
      clear s1 q1 s5 q5
      obtain ⟨W, hW⟩ : ∃ W, (w7.setCell ⟨w.heap.size + 1, 1, none⟩ (.int .i64 n7)).setCell ⟨w.heap.size + 1, 5, none⟩ (.int .i64 1) = W := ⟨_, rfl⟩
      rw [hW] at HF7 HM7 ⊢
      rw [List.append_assoc, List.singleton_append] at HF7
      obtain ⟨gz, cz, hvz, hgz, hcs, hfz, hov⟩ := Par.over HF7.out.1
      have p0 := HF7.out.2.1.1.cell 0
      have p3 := HF7.out.1.1.cell 3
      have y0 := HF7.out.2.2.1.cell 0; have y1 := HF7.out.2.2.1.cell 1; have y2 := HF7.out.2.2.1.cell 2; have y3 := HF7.out.2.2.1.cell 3; have y4 := HF7.out.2.2.1.cell 4; have y5 := HF7.out.2.2.1.cell 5; have y6 := HF7.out.2.2.1.cell 6
      simp [ndc] at p0 p3 y0 y1 y2 y3 y4 y5 y6
      rw [hvz] at p3
      obtain ⟨c0, hc0⟩ := hcs 0 (by decide); obtain ⟨c1, hc1⟩ := hcs 1 (by decide); obtain ⟨c2, hc2⟩ := hcs 2 (by decide); obtain ⟨c3, hc3⟩ := hcs 3 (by decide); obtain ⟨c4, hc4⟩ := hcs 4 (by decide); obtain ⟨c5, hc5⟩ := hcs 5 (by decide); obtain ⟨c6, hc6⟩ := hcs 6 (by decide)
      have z0 := hfz (N.length * 7); have z1 := hfz (N.length * 7 + 1); have z2 := hfz (N.length * 7 + 2); have z3 := hfz (N.length * 7 + 3); have z4 := hfz (N.length * 7 + 4); have z5 := hfz (N.length * 7 + 5); have z6 := hfz (N.length * 7 + 6)
      simp at hc0 hc1 hc2 hc3 hc4 hc5 hc6 z0 z1 z2 z3 z4 z5 z6
      obtain ⟨hP9, hU9⟩ := hov { X with k := 4, n := n7, kids := 1 }
      have HP9 := hide_ (hP9.later ((Below.refl _ _).drew))
      have HM9 := hide_ ((HM7.out.over hU9).drewM)
      have hlz : (N.length : Int) < (N.length : Int) + 1 + ((M.map (ndP ts L)).length : Int) := by omega
      have hlz2 : N.length < N.length + 1 + (M.map (ndP ts L)).length := by omega
      clear hcs hfz hov hP9 hU9 hvz
      simp only [List.length_map] at hlz hlz2 p3
      go_wp2_with fail
      go_region
      go_wp2
      go_end0
      have HLs : Hid (N ++ ({ x with k := 4, n := n7, kids := 1 } :: M).map (ndP ts L) = N ++ { X with k := 4, n := n7, kids := 1 } :: M.map (ndP ts L)) := by show _ = _; rw [← HXX.out]; rfl
      exact .inl ⟨{ x with k := 4, n := n7, kids := 1 } :: M, j7, v7, by rw [HRb.out]; unfold bodyP; rw [if_neg (by simp), if_pos (by simp), HJ.out]; rfl, rfl, hide_ (by rw [HLs.out]; exact ⟨HP9.out, by have h8 := hl7; simp at h8 ⊢; omega⟩), HM9⟩
    by_cases h5 : kk = 5
    · subst h5
      go_wp2_with fail
      rw [HD.out]
      refine (items_any hN HP6 hl6 (d + 1) hdf).mono ?_; rintro e w7 (⟨M, n7, j7, v7, hj, rfl, HPx, HMx⟩ | ⟨y, hy, rfl, HU⟩)
      case inr =>
        have HJ := hide_ hy
        clear hy
        unfold Flt
        go_wp2
        exact ⟨rfl, .inr ⟨y, by rw [HRb.out]; unfold bodyP; rw [if_neg (by simp), if_pos (by simp), HJ.out]; rfl, rfl, hide_ (HM6.out.upd HU.out)⟩⟩
      have HJ := hide_ hj
      have HF7 := hide_ (((HF6.out.mv HMx.out HPx.out.1).set 1 (.int .i64 n7) { X with k := 5, n := n7 } rfl).set 5 (.int .i64 1) { X with k := 5, n := n7, kids := 1 } rfl)
      have HM7 := hide_ (((HM6.out.trans HMx.out).setx ⟨w.heap.size + 1, 1, none⟩ (.int .i64 n7) (by show w.heap.size ≤ w.heap.size + 1; omega)).setx ⟨w.heap.size + 1, 5, none⟩ (.int .i64 1) (by show w.heap.size ≤ w.heap.size + 1; omega))
      have hl7 := HPx.out.2
      have s1 := (HF6.out.mv HMx.out HPx.out.1).2.2.1.cell 1
      have q1 := (HF6.out.mv HMx.out HPx.out.1).2.2.1.frozen 1
      have s5 := (HF6.out.mv HMx.out HPx.out.1).2.2.1.cell 5
      have q5 := (HF6.out.mv HMx.out HPx.out.1).2.2.1.frozen 5
      simp [ndc] at s1 s5
      clear hj HPx HMx k0 b0 b1
      go_upto_region 21 with fail
      clear s1 q1 s5 q5
      obtain ⟨W, hW⟩ : ∃ W, (w7.setCell ⟨w.heap.size + 1, 1, none⟩ (.int .i64 n7)).setCell ⟨w.heap.size + 1, 5, none⟩ (.int .i64 1) = W := ⟨_, rfl⟩
      rw [hW] at HF7 HM7 ⊢
      rw [List.append_assoc, List.singleton_append] at HF7
      obtain ⟨gz, cz, hvz, hgz, hcs, hfz, hov⟩ := Par.over HF7.out.1
      have p0 := HF7.out.2.1.1.cell 0
      have p3 := HF7.out.1.1.cell 3
      have y0 := HF7.out.2.2.1.cell 0; have y1 := HF7.out.2.2.1.cell 1; have y2 := HF7.out.2.2.1.cell 2; have y3 := HF7.out.2.2.1.cell 3; have y4 := HF7.out.2.2.1.cell 4; have y5 := HF7.out.2.2.1.cell 5; have y6 := HF7.out.2.2.1.cell 6
      simp [ndc] at p0 p3 y0 y1 y2 y3 y4 y5 y6
      rw [hvz] at p3
      obtain ⟨c0, hc0⟩ := hcs 0 (by decide); obtain ⟨c1, hc1⟩ := hcs 1 (by decide); obtain ⟨c2, hc2⟩ := hcs 2 (by decide); obtain ⟨c3, hc3⟩ := hcs 3 (by decide); obtain ⟨c4, hc4⟩ := hcs 4 (by decide); obtain ⟨c5, hc5⟩ := hcs 5 (by decide); obtain ⟨c6, hc6⟩ := hcs 6 (by decide)
      have z0 := hfz (N.length * 7); have z1 := hfz (N.length * 7 + 1); have z2 := hfz (N.length * 7 + 2); have z3 := hfz (N.length * 7 + 3); have z4 := hfz (N.length * 7 + 4); have z5 := hfz (N.length * 7 + 5); have z6 := hfz (N.length * 7 + 6)
      simp at hc0 hc1 hc2 hc3 hc4 hc5 hc6 z0 z1 z2 z3 z4 z5 z6
      obtain ⟨hP9, hU9⟩ := hov { X with k := 5, n := n7, kids := 1 }
      have HP9 := hide_ (hP9.later ((Below.refl _ _).drew))
      have HM9 := hide_ ((HM7.out.over hU9).drewM)
      have hlz : (N.length : Int) < (N.length : Int) + 1 + ((M.map (ndP ts L)).length : Int) := by omega
      have hlz2 : N.length < N.length + 1 + (M.map (ndP ts L)).length := by omega
      clear hcs hfz hov hP9 hU9 hvz
      simp only [List.length_map] at hlz hlz2 p3
      go_wp2_with fail
      go_region
      go_wp2
      go_end0
      have HLs : Hid (N ++ ({ x with k := 5, n := n7, kids := 1 } :: M).map (ndP ts L) = N ++ { X with k := 5, n := n7, kids := 1 } :: M.map (ndP ts L)) := by show _ = _; rw [← HXX.out]; rfl
      exact .inl ⟨{ x with k := 5, n := n7, kids := 1 } :: M, j7, v7, by rw [HRb.out]; unfold bodyP; rw [if_neg (by simp), if_pos (by simp), HJ.out]; rfl, rfl, hide_ (by rw [HLs.out]; exact ⟨HP9.out, by have h8 := hl7; simp at h8 ⊢; omega⟩), HM9⟩
    by_cases h6 : kk = 6
    · subst h6
      go_wp2_with fail
      rw [HD.out]
      refine (option_any hN HP6 hl6 (d + 1) hdf).mono ?_; rintro e w7 (⟨M, j7, v7, hj, rfl, HPx, HMx⟩ | ⟨y, hy, rfl, HU⟩)
      case inr =>
        have HJ := hide_ hy
        clear hy
        unfold Flt
        go_wp2
        exact ⟨rfl, .inr ⟨y, by rw [HRb.out]; unfold bodyP; rw [if_neg (by simp), if_neg (by simp), if_pos (by simp), HJ.out]; rfl, rfl, hide_ (HM6.out.upd HU.out)⟩⟩
      have HJ := hide_ hj
      have HF7 := hide_ ((HF6.out.mv HMx.out HPx.out.1).set 5 (.int .i64 1) { X with k := 6, n := nn, kids := 1 } rfl)
      have HM7 := hide_ ((HM6.out.trans HMx.out).setx ⟨w.heap.size + 1, 5, none⟩ (.int .i64 1) (by show w.heap.size ≤ w.heap.size + 1; omega))
      have hl7 := HPx.out.2
      have s5 := (HF6.out.mv HMx.out HPx.out.1).2.2.1.cell 5
      have q5 := (HF6.out.mv HMx.out HPx.out.1).2.2.1.frozen 5
      simp [ndc] at s5
      clear hj HPx HMx k0 b0 b1
      go_upto_region 21 with fail
      clear s5 q5
      obtain ⟨W, hW⟩ : ∃ W, w7.setCell ⟨w.heap.size + 1, 5, none⟩ (.int .i64 1) = W := ⟨_, rfl⟩
      rw [hW] at HF7 HM7 ⊢
      rw [List.append_assoc, List.singleton_append] at HF7
      obtain ⟨gz, cz, hvz, hgz, hcs, hfz, hov⟩ := Par.over HF7.out.1
      have p0 := HF7.out.2.1.1.cell 0
      have p3 := HF7.out.1.1.cell 3
      have y0 := HF7.out.2.2.1.cell 0; have y1 := HF7.out.2.2.1.cell 1; have y2 := HF7.out.2.2.1.cell 2; have y3 := HF7.out.2.2.1.cell 3; have y4 := HF7.out.2.2.1.cell 4; have y5 := HF7.out.2.2.1.cell 5; have y6 := HF7.out.2.2.1.cell 6
      simp [ndc] at p0 p3 y0 y1 y2 y3 y4 y5 y6
      rw [hvz] at p3
      obtain ⟨c0, hc0⟩ := hcs 0 (by decide); obtain ⟨c1, hc1⟩ := hcs 1 (by decide); obtain ⟨c2, hc2⟩ := hcs 2 (by decide); obtain ⟨c3, hc3⟩ := hcs 3 (by decide); obtain ⟨c4, hc4⟩ := hcs 4 (by decide); obtain ⟨c5, hc5⟩ := hcs 5 (by decide); obtain ⟨c6, hc6⟩ := hcs 6 (by decide)
      have z0 := hfz (N.length * 7); have z1 := hfz (N.length * 7 + 1); have z2 := hfz (N.length * 7 + 2); have z3 := hfz (N.length * 7 + 3); have z4 := hfz (N.length * 7 + 4); have z5 := hfz (N.length * 7 + 5); have z6 := hfz (N.length * 7 + 6)
      simp at hc0 hc1 hc2 hc3 hc4 hc5 hc6 z0 z1 z2 z3 z4 z5 z6
      obtain ⟨hP9, hU9⟩ := hov { X with k := 6, n := nn, kids := 1 }
      have HP9 := hide_ (hP9.later ((Below.refl _ _).drew))
      have HM9 := hide_ ((HM7.out.over hU9).drewM)
      have hlz : (N.length : Int) < (N.length : Int) + 1 + ((M.map (ndP ts L)).length : Int) := by omega
      have hlz2 : N.length < N.length + 1 + (M.map (ndP ts L)).length := by omega
      clear hcs hfz hov hP9 hU9 hvz
      simp only [List.length_map] at hlz hlz2 p3
      go_wp2_with fail
      go_region
      go_wp2
      go_end0
      have HLs : Hid (N ++ ({ x with k := 6, n := nn, kids := 1 } :: M).map (ndP ts L) = N ++ { X with k := 6, n := nn, kids := 1 } :: M.map (ndP ts L)) := by show _ = _; rw [← HXX.out]; rfl
      exact .inl ⟨{ x with k := 6, n := nn, kids := 1 } :: M, j7, v7, by rw [HRb.out]; unfold bodyP; rw [if_neg (by simp), if_neg (by simp), if_pos (by simp), HJ.out]; rfl, rfl, hide_ (by rw [HLs.out]; exact ⟨HP9.out, by have h8 := hl7; simp at h8 ⊢; omega⟩), HM9⟩
    by_cases h7 : kk = 7
    · subst h7
      have HX6 := hide_ HF6.out.2.1
      go_wp2_with fail
      refine (parts_arm hN HP6 hl6 hdf HX6).mono ?_; rintro e w7 (⟨M, c7, j7, v7, hj, rfl, HPx, HMx⟩ | ⟨y, hy, rfl, HU⟩)
      case inr =>
        have HJ := hide_ hy
        clear hy
        unfold Flt
        go_wp2
        exact ⟨rfl, .inr ⟨y, by rw [HRb.out]; unfold bodyP; rw [if_neg (by simp), if_neg (by simp), if_neg (by simp), if_pos (by simp), HJ.out]; rfl, rfl, hide_ (HM6.out.upd HU.out)⟩⟩
      have HJ := hide_ hj
      have HF7 := hide_ ((HF6.out.mv HMx.out HPx.out.1).set 5 (.int .i64 (c7 : Int)) { X with k := 7, n := nn, kids := c7 } rfl)
      have HM7 := hide_ ((HM6.out.trans HMx.out).setx ⟨w.heap.size + 1, 5, none⟩ (.int .i64 (c7 : Int)) (by show w.heap.size ≤ w.heap.size + 1; omega))
      have hl7 := HPx.out.2
      have s5 := (HF6.out.mv HMx.out HPx.out.1).2.2.1.cell 5
      have q5 := (HF6.out.mv HMx.out HPx.out.1).2.2.1.frozen 5
      simp [ndc] at s5
      clear hj HPx HMx k0 b0 b1
      go_upto_region 21 with fail
      clear s5 q5
      obtain ⟨W, hW⟩ : ∃ W, w7.setCell ⟨w.heap.size + 1, 5, none⟩ (.int .i64 (c7 : Int)) = W := ⟨_, rfl⟩
      rw [hW] at HF7 HM7 ⊢
      rw [List.append_assoc, List.singleton_append] at HF7
      obtain ⟨gz, cz, hvz, hgz, hcs, hfz, hov⟩ := Par.over HF7.out.1
      have p0 := HF7.out.2.1.1.cell 0
      have p3 := HF7.out.1.1.cell 3
      have y0 := HF7.out.2.2.1.cell 0; have y1 := HF7.out.2.2.1.cell 1; have y2 := HF7.out.2.2.1.cell 2; have y3 := HF7.out.2.2.1.cell 3; have y4 := HF7.out.2.2.1.cell 4; have y5 := HF7.out.2.2.1.cell 5; have y6 := HF7.out.2.2.1.cell 6
      simp [ndc] at p0 p3 y0 y1 y2 y3 y4 y5 y6
      rw [hvz] at p3
      obtain ⟨c0, hc0⟩ := hcs 0 (by decide); obtain ⟨c1, hc1⟩ := hcs 1 (by decide); obtain ⟨c2, hc2⟩ := hcs 2 (by decide); obtain ⟨c3, hc3⟩ := hcs 3 (by decide); obtain ⟨c4, hc4⟩ := hcs 4 (by decide); obtain ⟨c5, hc5⟩ := hcs 5 (by decide); obtain ⟨c6, hc6⟩ := hcs 6 (by decide)
      have z0 := hfz (N.length * 7); have z1 := hfz (N.length * 7 + 1); have z2 := hfz (N.length * 7 + 2); have z3 := hfz (N.length * 7 + 3); have z4 := hfz (N.length * 7 + 4); have z5 := hfz (N.length * 7 + 5); have z6 := hfz (N.length * 7 + 6)
      simp at hc0 hc1 hc2 hc3 hc4 hc5 hc6 z0 z1 z2 z3 z4 z5 z6
      obtain ⟨hP9, hU9⟩ := hov { X with k := 7, n := nn, kids := c7 }
      have HP9 := hide_ (hP9.later ((Below.refl _ _).drew))
      have HM9 := hide_ ((HM7.out.over hU9).drewM)
      have hlz : (N.length : Int) < (N.length : Int) + 1 + ((M.map (ndP ts L)).length : Int) := by omega
      have hlz2 : N.length < N.length + 1 + (M.map (ndP ts L)).length := by omega
      clear hcs hfz hov hP9 hU9 hvz
      simp only [List.length_map] at hlz hlz2 p3
      go_wp2_with fail
      go_region
      go_wp2
      go_end0
      have HLs : Hid (N ++ ({ x with k := 7, n := nn, kids := c7 } :: M).map (ndP ts L) = N ++ { X with k := 7, n := nn, kids := c7 } :: M.map (ndP ts L)) := by show _ = _; rw [← HXX.out]; rfl
      exact .inl ⟨{ x with k := 7, n := nn, kids := c7 } :: M, j7, v7, by rw [HRb.out]; unfold bodyP; rw [if_neg (by simp), if_neg (by simp), if_neg (by simp), if_pos (by simp), HJ.out]; rfl, rfl, hide_ (by rw [HLs.out]; exact ⟨HP9.out, by have h8 := hl7; simp at h8 ⊢; omega⟩), HM9⟩
    by_cases h8 : kk = 8
    · subst h8
      have HX6 := hide_ HF6.out.2.1
      go_wp2_with fail
      refine (parts_field hN HP6 hl6 hdf HX6).mono ?_; rintro e w7 (⟨M, c7, j7, v7, hj, rfl, HPx, HMx⟩ | ⟨y, hy, rfl, HU⟩)
      case inr =>
        have HJ := hide_ hy
        clear hy
        unfold Flt
        go_wp2
        exact ⟨rfl, .inr ⟨y, by rw [HRb.out]; unfold bodyP; rw [if_neg (by simp), if_neg (by simp), if_neg (by simp), if_neg (by simp), if_pos (by simp), HJ.out]; rfl, rfl, hide_ (HM6.out.upd HU.out)⟩⟩
      have HJ := hide_ hj
      have HF7 := hide_ ((HF6.out.mv HMx.out HPx.out.1).set 5 (.int .i64 (c7 : Int)) { X with k := 8, n := nn, kids := c7 } rfl)
      have HM7 := hide_ ((HM6.out.trans HMx.out).setx ⟨w.heap.size + 1, 5, none⟩ (.int .i64 (c7 : Int)) (by show w.heap.size ≤ w.heap.size + 1; omega))
      have hl7 := HPx.out.2
      have s5 := (HF6.out.mv HMx.out HPx.out.1).2.2.1.cell 5
      have q5 := (HF6.out.mv HMx.out HPx.out.1).2.2.1.frozen 5
      simp [ndc] at s5
      clear hj HPx HMx k0 b0 b1
      go_upto_region 21 with fail
      clear s5 q5
      obtain ⟨W, hW⟩ : ∃ W, w7.setCell ⟨w.heap.size + 1, 5, none⟩ (.int .i64 (c7 : Int)) = W := ⟨_, rfl⟩
      rw [hW] at HF7 HM7 ⊢
      rw [List.append_assoc, List.singleton_append] at HF7
      obtain ⟨gz, cz, hvz, hgz, hcs, hfz, hov⟩ := Par.over HF7.out.1
      have p0 := HF7.out.2.1.1.cell 0
      have p3 := HF7.out.1.1.cell 3
      have y0 := HF7.out.2.2.1.cell 0; have y1 := HF7.out.2.2.1.cell 1; have y2 := HF7.out.2.2.1.cell 2; have y3 := HF7.out.2.2.1.cell 3; have y4 := HF7.out.2.2.1.cell 4; have y5 := HF7.out.2.2.1.cell 5; have y6 := HF7.out.2.2.1.cell 6
      simp [ndc] at p0 p3 y0 y1 y2 y3 y4 y5 y6
      rw [hvz] at p3
      obtain ⟨c0, hc0⟩ := hcs 0 (by decide); obtain ⟨c1, hc1⟩ := hcs 1 (by decide); obtain ⟨c2, hc2⟩ := hcs 2 (by decide); obtain ⟨c3, hc3⟩ := hcs 3 (by decide); obtain ⟨c4, hc4⟩ := hcs 4 (by decide); obtain ⟨c5, hc5⟩ := hcs 5 (by decide); obtain ⟨c6, hc6⟩ := hcs 6 (by decide)
      have z0 := hfz (N.length * 7); have z1 := hfz (N.length * 7 + 1); have z2 := hfz (N.length * 7 + 2); have z3 := hfz (N.length * 7 + 3); have z4 := hfz (N.length * 7 + 4); have z5 := hfz (N.length * 7 + 5); have z6 := hfz (N.length * 7 + 6)
      simp at hc0 hc1 hc2 hc3 hc4 hc5 hc6 z0 z1 z2 z3 z4 z5 z6
      obtain ⟨hP9, hU9⟩ := hov { X with k := 8, n := nn, kids := c7 }
      have HP9 := hide_ (hP9.later ((Below.refl _ _).drew))
      have HM9 := hide_ ((HM7.out.over hU9).drewM)
      have hlz : (N.length : Int) < (N.length : Int) + 1 + ((M.map (ndP ts L)).length : Int) := by omega
      have hlz2 : N.length < N.length + 1 + (M.map (ndP ts L)).length := by omega
      clear hcs hfz hov hP9 hU9 hvz
      simp only [List.length_map] at hlz hlz2 p3
      go_wp2_with fail
      go_region
      go_wp2
      go_end0
      have HLs : Hid (N ++ ({ x with k := 8, n := nn, kids := c7 } :: M).map (ndP ts L) = N ++ { X with k := 8, n := nn, kids := c7 } :: M.map (ndP ts L)) := by show _ = _; rw [← HXX.out]; rfl
      exact .inl ⟨{ x with k := 8, n := nn, kids := c7 } :: M, j7, v7, by rw [HRb.out]; unfold bodyP; rw [if_neg (by simp), if_neg (by simp), if_neg (by simp), if_neg (by simp), if_pos (by simp), HJ.out]; rfl, rfl, hide_ (by rw [HLs.out]; exact ⟨HP9.out, by have h8 := hl7; simp at h8 ⊢; omega⟩), HM9⟩
    have i9 : (kk == 9) = false := by simpa using h9
    have i4 : (kk == 4) = false := by simpa using h4
    have i5 : (kk == 5) = false := by simpa using h5
    have i6 : (kk == 6) = false := by simpa using h6
    have i7 : (kk == 7) = false := by simpa using h7
    have i8 : (kk == 8) = false := by simpa using h8
    go_upto_region 21 with fail
    clear k0 b0 b1
    obtain ⟨gz, cz, hvz, hgz, hcs, hfz, hov⟩ := Par.over HF6.out.1
    have p0 := HF6.out.2.1.1.cell 0
    have p3 := HF6.out.1.1.cell 3
    have y0 := HF6.out.2.2.1.cell 0; have y1 := HF6.out.2.2.1.cell 1; have y2 := HF6.out.2.2.1.cell 2; have y3 := HF6.out.2.2.1.cell 3; have y4 := HF6.out.2.2.1.cell 4; have y5 := HF6.out.2.2.1.cell 5; have y6 := HF6.out.2.2.1.cell 6
    simp [ndc] at p0 p3 y0 y1 y2 y3 y4 y5 y6
    rw [hvz] at p3
    obtain ⟨c0, hc0⟩ := hcs 0 (by decide); obtain ⟨c1, hc1⟩ := hcs 1 (by decide); obtain ⟨c2, hc2⟩ := hcs 2 (by decide); obtain ⟨c3, hc3⟩ := hcs 3 (by decide); obtain ⟨c4, hc4⟩ := hcs 4 (by decide); obtain ⟨c5, hc5⟩ := hcs 5 (by decide); obtain ⟨c6, hc6⟩ := hcs 6 (by decide)
    have z0 := hfz (N.length * 7); have z1 := hfz (N.length * 7 + 1); have z2 := hfz (N.length * 7 + 2); have z3 := hfz (N.length * 7 + 3); have z4 := hfz (N.length * 7 + 4); have z5 := hfz (N.length * 7 + 5); have z6 := hfz (N.length * 7 + 6)
    simp at hc0 hc1 hc2 hc3 hc4 hc5 hc6 z0 z1 z2 z3 z4 z5 z6
    obtain ⟨hP9, hU9⟩ := hov { X with k := kk, n := nn }
    have HP9 := hide_ (hP9.later ((Below.refl _ _).drew))
    have HM9 := hide_ ((HM6.out.over hU9).drewM)
    have hlz : (N.length : Int) < (N.length : Int) + 1 + ((([] : List Nd)).length : Int) := by omega
    have hlz2 : N.length < N.length + 1 + (([] : List Nd)).length := by omega
    clear hcs hfz hov hP9 hU9 hvz
    simp only [List.length_nil, Nat.add_zero, Int.natCast_zero, Int.add_zero] at hlz hlz2 p3
    go_wp2_with fail
    go_region
    go_wp2
    go_end0
    have HLs : Hid (N ++ ([{ x with k := kk, n := nn }]).map (ndP ts L) = N ++ { X with k := kk, n := nn } :: ([] : List Nd)) := by show _ = _; rw [← HXX.out]; rfl
    exact .inl ⟨[{ x with k := kk, n := nn }], p + 1, v6, by rw [HRb.out]; unfold bodyP; rw [if_neg h9, if_neg (by simp; exact ⟨h4, h5⟩), if_neg h6, if_neg h7, if_neg h8], rfl, hide_ (by rw [HLs.out]; exact ⟨HP9.out, by simp; omega⟩), HM9⟩
theorem node_any (f : Nat) : NodeOk f := by
  induction f with
  | zero => exact node_zero
  | succ f ih => exact node_succ f (hide_ ih)
end Go.Proofs.YtafljgjkcnbhbaaDoor

/- definition. -/
namespace Go.Proofs.YtafljgjkcnbhbaaDoor
open Go.RowKit
set_option linter.unusedVariables false

def dfc (d : Df) (v : Value) : List Value := [.string d.name, .int .i64 d.a, v]
def dfv (d : Df) (v : Value) : Value := .agg #[.string d.name, .int .i64 d.a, v]
theorem Par.nilN {w : World} {B g : Nat} {tv v : Value} {ts : List Tk} {L p : Nat} {N : List Nd} (h : Par w B g tv ts L p v N) : Par (w.setCell ⟨g, 3, none⟩ (.slice none 0 0)) B g tv ts L p (.slice none 0 0) [] := by
  have hU : Upd (fun k => k = g) w (w.setCell ⟨g, 3, none⟩ (.slice none 0 0)) := (Upd.refl _ w).set _ _ (.inl rfl)
  exact ⟨by have := h.1.set 3 (.slice none 0 0); simpa using this, ownS_upd h.2.1 hU (fun k hk => h.ne1 hk), World.ownsRow_nil _ _ _ _, h.2.2.2⟩
/-- Behind a definition. -/
def DefTo (w : World) (B g : Nat) (tv : Value) (ts : List Tk) (L : Nat) (r : PR (Df × Nat)) (e : Ending) (w' : World) : Prop :=
  (∃ D j v', r = .ok (D, j) ∧ e = .returned (dfv (dfP ts L D) v') ∧ Hid (Par w' B g tv ts L j v' (D.ty.map (ndP ts L))) ∧ Hid (Upd (fun k => k = g) w w') ∧ Hid (∀ k, v'.ownBlock = some k → w.heap.size ≤ k)) ∨
  (∃ y, r = .error y ∧ e = Flt y.1 (plc ts L y.2) ∧ Hid (Upd (fun k => k = g) w w'))
theorem wr3 {w : World} {g : Nat} {t : TypeId} {x0 x1 x2 : Value} (h : Blk w g t [x0, x1, x2]) (y0 y1 y2 : Value) :
    Blk (((w.setCell ⟨g, 0, none⟩ y0).setCell ⟨g, 1, none⟩ y1).setCell ⟨g, 2, none⟩ y2) g t [y0, y1, y2] := by
  have := ((h.set 0 y0).set 1 y1).set 2 y2
  simpa using this
theorem retD {fn : Func} {p : Tmp} (h : fn.results = #[.cell p 41]) {R : Ending → World → Prop} {tmps : Array Value} {g : Nat} {w : World} {d : Df} {v : Value} (hp : tmps.getD p undef = .pointer (some ⟨g, 0, none⟩)) (hK : Blk w g 41 (dfc d v)) (hR : R (.returned (dfv d v)) w) :
    bodyPost Tryd.prog fn R Exit.ret ⟨tmps, []⟩ w :=
  bodyPost_ret (results_cell_row h _ _ _ _ (dfc d v).toArray _ _ hp hK Tryd.underlying41 rfl (by show _ = some 3; kernel_rfl)) rfl hR
set_option maxRecDepth 100000 in
set_option maxHeartbeats 8000000 in
theorem def_any {w : World} {B g : Nat} {tv v : Value} {ts : List Tk} {L p : Nat} {N : List Nd} (HP : Hid (Par w B g tv ts L p v N)) :
    Calls Tryd.prog 37 #[.pointer (some ⟨g, 0, none⟩)] w fun e w' => DefTo w B g tv ts L (defP (ts.map core) p) e w' := by
  obtain ⟨r, hr⟩ : ∃ r, defP (ts.map core) p = r := ⟨_, rfl⟩
  have HR := hide_ hr
  rw [hr]
  clear hr
  have hgw := HP.out.1.lt
  have HBa := hide_ ((Below.refl w.heap.size w).alloc (Nat.le_refl _) (.cells #[.string ⟨#[]⟩, .int .i64 0, .slice none 0 0] 41))
  have KD := hide_ (Blk.newA w #[.string ⟨#[]⟩, .int .i64 0, .slice none 0 0] 41)
  have HPa := hide_ (HP.out.later HBa.out)
  obtain ⟨wa, hwa⟩ : ∃ wa, wa = w.alloc (.cells #[.string ⟨#[]⟩, .int .i64 0, .slice none 0 0] 41) := ⟨_, rfl⟩
  rw [← hwa] at HBa KD HPa
  go_enter Tryd.func37, Tryd.ntmps37
  go_wp2_with fail
  rw [← hwa]
  clear hwa
  refine (name_tok HPa).mono ?_; rintro e w1 (⟨i1, hj, rfl, HP1, HU⟩ | ⟨y, hy, rfl, HU⟩)
  case inr =>
    have HJ := hide_ hy
    clear hy
    unfold Flt
    go_wp2
    exact ⟨rfl, .inr ⟨y, by rw [← HR.out]; unfold defP; rw [HJ.out, bnd_err], rfl, hide_ ((Upd.of_below HBa.out).trans HU.out (fun _ _ h => h))⟩⟩
  have H1 := hide_ hj
  have hi1 := (tak_ok hj).1
  have HU1 := hide_ (Upd.trans (Upd.of_below (S := fun k => k = g) HBa.out) HU.out (fun _ _ h => h))
  have KD1 := hide_ (KD.out.upd HU.out (by show ¬ w.heap.size = g; omega))
  clear hj HU HPa KD HBa
  have HQ : Hid (core (tkAt ts L p) = qAt (ts.map core) p ∧ plc ts L p = (tkAt ts L p).a) := ⟨(core_at ts L p).symm, rfl⟩
  obtain ⟨x, hx⟩ : ∃ x, tkAt ts L p = x := ⟨_, rfl⟩
  rw [hx] at HQ ⊢
  clear hx
  have HBb := hide_ ((Below.refl w1.heap.size w1).alloc (Nat.le_refl _) (.cells #[.int .i64 x.k, .string x.t, .int .i64 x.n, .int .i64 x.a, .int .i64 x.e] 72))
  have KT := hide_ (Blk.newA w1 #[.int .i64 x.k, .string x.t, .int .i64 x.n, .int .i64 x.a, .int .i64 x.e] 72)
  have HPb := hide_ (HP1.out.later HBb.out)
  have HUb := hide_ (HU1.out.then HBb.out)
  have KDb := hide_ (KD1.out.later HBb.out)
  have hs1 := HU1.out.size
  obtain ⟨wb, hwb⟩ : ∃ wb, wb = w1.alloc (.cells #[.int .i64 x.k, .string x.t, .int .i64 x.n, .int .i64 x.a, .int .i64 x.e] 72) := ⟨_, rfl⟩
  rw [← hwb] at HBb KT HPb HUb KDb
  clear HP1 HU1 KD1
  unfold tkv
  go_wp2_with fail
  rw [← hwb]
  clear hwb
  refine (text_any HPb ⟨#[61]⟩ (by decide)).mono ?_; rintro e w2 (⟨i2, hj, rfl, HP2, HU⟩ | ⟨y, hy, rfl, HU⟩)
  case inr =>
    have HJ := hide_ hy
    clear hy
    unfold Flt
    go_wp2
    exact ⟨rfl, .inr ⟨y, by rw [← HR.out]; unfold defP; rw [H1.out, bnd_ok, HJ.out, bnd_err], rfl, hide_ (HUb.out.to HU.out)⟩⟩
  have H2 := hide_ hj
  have hg1 : g < w1.heap.size := by omega
  have HU2 := hide_ (HUb.out.to HU.out)
  have KT2 := hide_ (KT.out.upd HU.out (by show ¬ w1.heap.size = g; omega))
  have KD2 := hide_ (KDb.out.upd HU.out (by show ¬ w.heap.size = g; omega))
  have g3 := HP2.out.1.cell 3
  have z3 := HP2.out.1.frozen 3
  simp at g3
  have HP3 := hide_ HP2.out.nilN
  have HU3 := hide_ (HU2.out.set ⟨g, 3, none⟩ (.slice none 0 0) (.inl rfl))
  have KT3 := hide_ (KT2.out.other ⟨g, 3, none⟩ (.slice none 0 0) (by show w1.heap.size ≠ g; omega))
  have KD3 := hide_ (KD2.out.other ⟨g, 3, none⟩ (.slice none 0 0) (by show w.heap.size ≠ g; omega))
  obtain ⟨w3, hw3⟩ : ∃ w3, w3 = w2.setCell ⟨g, 3, none⟩ (.slice none 0 0) := ⟨_, rfl⟩
  rw [← hw3] at HP3 HU3 KT3 KD3
  clear hj HU HPb HUb KDb KT HBb HP2 HU2 KT2 KD2
  go_wp2_with fail
  rw [← hw3]
  clear hw3 g3 z3
  have HEx := expr_any (hide_ (node_any 17)) HP3 (Nat.zero_le _) 0 (by omega)
  refine HEx.mono ?_; clear HEx; rintro e w4 (⟨M, i4, v4, hj, rfl, HPx, HMx⟩ | ⟨y, hy, rfl, HU⟩)
  case inr =>
    have HJ := hide_ hy
    clear hy
    unfold Flt
    go_wp2
    exact ⟨rfl, .inr ⟨y, by rw [← HR.out]; unfold defP; rw [H1.out, bnd_ok, H2.out, bnd_ok, HJ.out, bnd_err], rfl, hide_ (HU3.out.to (HU.out.mono (fun k _ h => by rcases h with h | h; exact h; cases h)))⟩⟩
  have H4 := hide_ hj
  have HUx := hide_ (HMx.out.1.mono (T := fun k => k = g) (fun k _ h => by rcases h with h | h; exact h; cases h))
  have HNw := hide_ (fun k (hk : v4.ownBlock = some k) => Nat.le_trans HU3.out.size ((HMx.out.2 k hk).resolve_left (fun h => by cases h)))
  have HP4 := hide_ HPx.out.1
  have HU4 := hide_ (HU3.out.to HUx.out)
  have KT4 := hide_ (KT3.out.upd HUx.out (by show ¬ w1.heap.size = g; omega))
  have KD4 := hide_ (KD3.out.upd HUx.out (by show ¬ w.heap.size = g; omega))
  clear hj HPx HMx HUx HP3 HU3 KT3 KD3
  go_wp2_with fail
  refine (text_any HP4 ⟨#[59]⟩ (by decide)).mono ?_; rintro e w5 (⟨i5, hj, rfl, HP5, HU⟩ | ⟨y, hy, rfl, HU⟩)
  case inr =>
    have HJ := hide_ hy
    clear hy
    unfold Flt
    go_wp2
    exact ⟨rfl, .inr ⟨y, by rw [← HR.out]; unfold defP; rw [H1.out, bnd_ok, H2.out, bnd_ok, H4.out, bnd_ok, HJ.out, bnd_err], rfl, hide_ (HU4.out.to HU.out)⟩⟩
  have H5 := hide_ hj
  have HU5 := hide_ (HU4.out.to HU.out)
  have KT5 := hide_ (KT4.out.upd HU.out (by show ¬ w1.heap.size = g; omega))
  have KD5 := hide_ (KD4.out.upd HU.out (by show ¬ w.heap.size = g; omega))
  clear hj HU HP4 HU4 KT4 KD4
  obtain ⟨va, vc, hva⟩ := own_slice HP5.out.2.2.1
  rw [show (([] : List Nd) ++ M.map (ndP ts L)).length = M.length by simp] at hva
  rw [List.nil_append] at HP5
  subst hva
  have g3 := HP5.out.1.cell 3
  have t1 := KT5.out.cell 1; have t3 := KT5.out.cell 3
  have d0 := KD5.out.cell 0; have d1 := KD5.out.cell 1; have d2 := KD5.out.cell 2
  have f0 := KD5.out.frozen 0; have f1 := KD5.out.frozen 1; have f2 := KD5.out.frozen 2
  simp at g3 t1 t3 d0 d1 d2
  go_wp2_with fail
  go_region
  go_wp2
  have hU6 : Upd (fun k => k = w.heap.size) w5 (((w5.setCell ⟨w.heap.size, 0, none⟩ (.string x.t)).setCell ⟨w.heap.size, 1, none⟩ (.int .i64 (x.a : Int))).setCell ⟨w.heap.size, 2, none⟩ (.slice va M.length vc)).drew := ((((Upd.refl (fun k => k = w.heap.size) w5).set ⟨w.heap.size, 0, none⟩ _ (.inl rfl)).set ⟨w.heap.size, 1, none⟩ _ (.inl rfl)).set ⟨w.heap.size, 2, none⟩ _ (.inl rfl)).drew
  have hl1 : ∀ k, tv.ownBlock = some k → ¬ k = w.heap.size := fun k hk => Nat.ne_of_lt (own_lt HP.out.2.1 hk)
  have hl2 : ∀ k, (Value.slice va M.length vc).ownBlock = some k → ¬ k = w.heap.size := fun k hk e => by
    obtain ⟨ys, hy⟩ := ownS_type HP5.out.2.2.1 hk
    subst e
    exact absurd (blk_type hy KD5.out) (by decide)
  refine retD (d := ⟨x.t, (x.a : Int), M.map (ndP ts L)⟩) (v := .slice va M.length vc) rfl rfl ((wr3 KD5.out (.string x.t) (.int .i64 (x.a : Int)) (.slice va M.length vc)).drew) (.inl ⟨⟨x.t, p, M⟩, i5, .slice va M.length vc, ?_, ?_, hide_ (HP5.out.upd hU6 (by omega) hl1 hl2), hide_ (HU5.out.trans hU6 (fun k h1 h2 => by omega)), HNw⟩)
  · rw [← HR.out]; unfold defP; rw [H1.out, bnd_ok, H2.out, bnd_ok, H4.out, bnd_ok, H5.out, bnd_ok, ← HQ.out.1]; rfl
  · show Ending.returned _ = Ending.returned _
    unfold dfv dfP
    rw [show plc ts L (p : Int).toNat = plc ts L p from rfl, HQ.out.2]
end Go.Proofs.YtafljgjkcnbhbaaDoor

/- Sources in memory; source. -/
namespace Go.Proofs.YtafljgjkcnbhbaaDoor
open Go.RowKit
set_option linter.unusedVariables false

def cellsD : List Df → List Value → List Value
  | d :: D, v :: vs => dfc d v ++ cellsD D vs
  | _, _ => []
theorem cellsD_snoc : ∀ (D : List Df) (vs : List Value) (d : Df) (v : Value), vs.length = D.length → cellsD (D ++ [d]) (vs ++ [v]) = cellsD D vs ++ dfc d v
  | [], [], d, v, _ => by simp [cellsD]
  | [], _ :: _, _, _, h => by simp at h
  | _ :: _, [], _, _, h => by simp at h
  | a :: D, b :: vs, d, v, h => by
    have ih := cellsD_snoc D vs d v (by simpa using h)
    simp [cellsD, ih]
/-- A source's definitions lie here: the lists of their nodes are apart from one another. -/
def Src (w : World) (B : Nat) (vd : Value) (D : List Df) (vs : List Value) : Prop :=
  vs.length = D.length ∧ w.ownsRow B 41 3 vd D.length (cellsD D vs) ∧ (∀ (i : Nat) (d : Df) (v : Value), D[i]? = some d → vs[i]? = some v → w.ownsRow B 38 7 v d.ty.length (cellsN d.ty)) ∧
    (∀ (i j : Nat) (v u : Value) (k : Nat), vs[i]? = some v → vs[j]? = some u → v.ownBlock = some k → u.ownBlock = some k → i = j)
theorem Src.nil (w : World) (B : Nat) : Src w B (.slice none 0 0) [] [] := ⟨rfl, World.ownsRow_nil _ _ _ _, fun i d v h => by simp at h, fun i j v u k h => by simp at h⟩
theorem Src.upd {S : Nat → Prop} {w w' : World} {B : Nat} {vd : Value} {D : List Df} {vs : List Value} (h : Src w B vd D vs) (hu : Upd S w w') (h1 : ∀ k, vd.ownBlock = some k → ¬ S k) (h2 : ∀ (i : Nat) (v : Value) (k : Nat), vs[i]? = some v → v.ownBlock = some k → ¬ S k) : Src w' B vd D vs :=
  ⟨h.1, ownS_upd h.2.1 hu h1, fun i d v hd hv => ownS_upd (h.2.2.1 i d v hd hv) hu (fun k hk => h2 i v k hv hk), h.2.2.2⟩
theorem Src.later {w w' : World} {B : Nat} {vd : Value} {D : List Df} {vs : List Value} (h : Src w B vd D vs) (hB : Below w.heap.size w w') : Src w' B vd D vs := h.upd (Upd.of_below (S := fun _ => False) hB) (fun _ _ h => h) (fun _ _ _ _ _ h => h)
theorem Src.d {w : World} {B : Nat} {vd : Value} {D : List Df} {vs : List Value} (h : Src w B vd D vs) {i : Nat} {v : Value} (hv : vs[i]? = some v) : ∃ d, D[i]? = some d := by
  have hi := (List.getElem?_eq_some_iff.1 hv).1
  rw [h.1] at hi
  exact ⟨_, List.getElem?_eq_getElem hi⟩
/-- A block of another type is changed. -/
theorem Src.other {w w' : World} {B g : Nat} {vd : Value} {D : List Df} {vs : List Value} {t : TypeId} {ys : List Value} (h : Src w B vd D vs) (hu : Upd (fun k => k = g) w w') (hg : Blk w g t ys) (h1 : t ≠ 41) (h2 : t ≠ 38) : Src w' B vd D vs := by
  refine h.upd hu (fun k hk e => ?_) (fun i v k hv hk e => ?_)
  · subst e
    obtain ⟨zs, hz⟩ := ownS_type h.2.1 hk
    exact h1 (blk_type hg hz)
  · subst e
    obtain ⟨d, hd⟩ := h.d hv
    obtain ⟨zs, hz⟩ := ownS_type (h.2.2.1 i d v hd hv) hk
    exact h2 (blk_type hg hz)
/-- One definition more. -/
theorem Src.push {w : World} {B : Nat} {vd : Value} {D : List Df} {vs : List Value} (h : Src w B vd D vs) (d : Df) (v : Value) (hv : w.ownsRow B 38 7 v d.ty.length (cellsN d.ty)) (hn : ∀ (i : Nat) (u : Value) (k : Nat), vs[i]? = some u → u.ownBlock = some k → v.ownBlock ≠ some k) (hl : D.length ≤ 2932031007401) (hB : B ≤ w.heap.size) (hone : v.oneCell' = true) :
    ∃ gn cap w', (Builtin.append_ #[22, 22] 22 #[vd, .slice (some ⟨w.heap.size, 0, none⟩) 1 1]).run Tryd.prog (w.alloc (.cells #[.string d.name, .int .i64 d.a, v] 41)) = .ok (.slice (some ⟨gn, 0, none⟩) (D.length + 1) cap) w' ∧
      Src w' B (.slice (some ⟨gn, 0, none⟩) (D.length + 1) cap) (D ++ [d]) (vs ++ [v]) ∧ Upd (fun k => vd.ownBlock = some k) w w' ∧ (vd.ownBlock = some gn ∨ w.heap.size ≤ gn) := by
  obtain ⟨gn, cap, w', r1, o1, u1, c1⟩ := run_pushS (P := Tryd.prog) (t := 22) (e := 41) (z := .agg #[.string ⟨#[]⟩, .int .i64 0, .slice none 0 0]) (bytes := 48) Tryd.underlying22 (by kernel_rfl) rfl (by decide) w 22 h.2.1 (dfc d v) rfl (by intro u hu; simp [dfc] at hu; rcases hu with rfl | rfl | rfl; rfl; rfl; exact hone) (by unfold maxLen; omega) (by omega) hB
  have hne : ∀ (x : Value) (n : Nat) (xs : List Value), w.ownsRow B 38 7 x n xs → ∀ k, x.ownBlock = some k → ¬ vd.ownBlock = some k := fun x n xs hx k hk e => by
    obtain ⟨ys, hy⟩ := ownS_type hx hk
    obtain ⟨zs, hz⟩ := ownS_type h.2.1 e
    exact absurd (blk_type hy hz) (by decide)
  refine ⟨gn, cap, w', r1, ⟨by simp [h.1], ?_, ?_, ?_⟩, u1, c1⟩
  · rw [cellsD_snoc D vs d v h.1, List.length_append]
    exact o1
  · intro i e x he hx
    rcases Nat.lt_or_ge i D.length with hi | hi
    · rw [List.getElem?_append_left hi] at he
      rw [List.getElem?_append_left (by rw [h.1]; exact hi)] at hx
      exact ownS_upd (h.2.2.1 i e x he hx) u1 (hne _ _ _ (h.2.2.1 i e x he hx))
    · rw [List.getElem?_append_right hi] at he
      rw [List.getElem?_append_right (by rw [h.1]; exact hi)] at hx
      have h0 : i - D.length = 0 := by
        have := (List.getElem?_eq_some_iff.1 he).1
        simpa using this
      rw [h0] at he
      rw [h.1, h0] at hx
      simp at he hx
      subst he hx
      exact ownS_upd hv u1 (hne _ _ _ hv)
  · intro i j x y k hx hy hk1 hk2
    rcases Nat.lt_or_ge i vs.length with hi | hi <;> rcases Nat.lt_or_ge j vs.length with hj | hj
    · rw [List.getElem?_append_left hi] at hx
      rw [List.getElem?_append_left hj] at hy
      exact h.2.2.2 i j x y k hx hy hk1 hk2
    · rw [List.getElem?_append_left hi] at hx
      rw [List.getElem?_append_right hj] at hy
      have h0 : j - vs.length = 0 := by
        have := (List.getElem?_eq_some_iff.1 hy).1
        simpa using this
      rw [h0] at hy
      simp at hy
      subst hy
      exact absurd hk2 (hn i x k hx hk1)
    · rw [List.getElem?_append_right hi] at hx
      rw [List.getElem?_append_left hj] at hy
      have h0 : i - vs.length = 0 := by
        have := (List.getElem?_eq_some_iff.1 hx).1
        simpa using this
      rw [h0] at hx
      simp at hx
      subst hx
      exact absurd hk1 (hn j y k hy hk2)
    · have e1 := (List.getElem?_eq_some_iff.1 hx).1
      have e2 := (List.getElem?_eq_some_iff.1 hy).1
      simp at e1 e2
      omega
end Go.Proofs.YtafljgjkcnbhbaaDoor

/- source. -/
namespace Go.Proofs.YtafljgjkcnbhbaaDoor
open Go.RowKit
set_option linter.unusedVariables false

/-- Behind the definitions. -/
def SrcTo (w : World) (B g : Nat) (ts : List Tk) (L : Nat) (r : PR (List Df)) (e : Ending) (w' : World) : Prop :=
  (∃ D vd vs, r = .ok D ∧ e = .returned (.agg #[vd]) ∧ Hid (Src w' B vd (D.map (dfP ts L)) vs ∧ D.length ≤ 256) ∧ Hid (Upd (fun k => k = g) w w')) ∨
  (∃ y, r = .error y ∧ e = Flt y.1 (plc ts L y.2) ∧ Hid (Upd (fun k => k = g) w w'))
theorem def_ok {w : World} {B g : Nat} {tv v : Value} {ts : List Tk} {L p : Nat} {N : List Nd} (HP : Hid (Par w B g tv ts L p v N)) {D : Df} {j : Nat} (hr : defP (ts.map core) p = .ok (D, j)) :
    Calls Tryd.prog 37 #[.pointer (some ⟨g, 0, none⟩)] w fun e w' => ∃ v', e = .returned (dfv (dfP ts L D) v') ∧ Hid (Par w' B g tv ts L j v' (D.ty.map (ndP ts L))) ∧ Hid (Upd (fun k => k = g) w w') ∧ Hid (∀ k, v'.ownBlock = some k → w.heap.size ≤ k) := by
  refine (def_any HP).mono ?_
  rintro e w' (⟨D', j', v', h, rfl, h1, h2, h3⟩ | ⟨y, h, _⟩)
  · rw [hr] at h
    injection h with h
    injection h with ha hb
    subst ha hb
    exact ⟨v', rfl, h1, h2, h3⟩
  · rw [hr] at h; cases h
theorem def_err {w : World} {B g : Nat} {tv v : Value} {ts : List Tk} {L p : Nat} {N : List Nd} (HP : Hid (Par w B g tv ts L p v N)) {y : Nat × Nat} (hr : defP (ts.map core) p = .error y) :
    Calls Tryd.prog 37 #[.pointer (some ⟨g, 0, none⟩)] w fun e w' => e = Flt y.1 (plc ts L y.2) ∧ Hid (Upd (fun k => k = g) w w') := by
  refine (def_any HP).mono ?_
  rintro e w' (⟨D', j', v', h, rfl, h1, h2, h3⟩ | ⟨z, h, rfl, h2⟩)
  · rw [hr] at h; cases h
  · rw [hr] at h
    injection h with h
    subst h
    exact ⟨rfl, h2⟩
theorem retS {fn : Func} {p : Tmp} (h : fn.results = #[.cell p 24]) {R : Ending → World → Prop} {tmps : Array Value} {g : Nat} {w : World} {v : Value} (hp : tmps.getD p undef = .pointer (some ⟨g, 0, none⟩)) (hK : Blk w g 24 [v]) (hR : R (.returned (.agg #[v])) w) :
    bodyPost Tryd.prog fn R Exit.ret ⟨tmps, []⟩ w :=
  bodyPost_ret (results_cell_row h _ _ _ _ #[v] _ _ hp hK Tryd.underlying24 rfl (by show _ = some 1; kernel_rfl)) rfl hR
theorem src_next {wb w7 : World} {B g : Nat} {tv v v7 : Value} {ts : List Tk} {L p p7 : Nat} {N N7 : List Nd} {vd : Value} {D : List Df} {vs : List Value} (HS : Src wb B vd D vs) (HP : Par wb B g tv ts L p v N) (HP7 : Par w7 B g tv ts L p7 v7 N7) (HU : Upd (fun k => k = g) wb.drew w7) (HN : ∀ k, v7.ownBlock = some k → wb.drew.heap.size ≤ k) {d : Df} (hd : d.ty = N7) (hl : D.length ≤ 256) :
    ∃ gn cap w', (Builtin.append_ #[22, 22] 22 #[vd, .slice (some ⟨w7.heap.size, 0, none⟩) 1 1]).run Tryd.prog (w7.alloc (.cells #[.string d.name, .int .i64 d.a, v7] 41)) = .ok (.slice (some ⟨gn, 0, none⟩) (D.length + 1) cap) w' ∧
      Src w' B (.slice (some ⟨gn, 0, none⟩) (D.length + 1) cap) (D ++ [d]) (vs ++ [v7]) ∧ Upd (fun k => vd.ownBlock = some k) w7 w' ∧ (vd.ownBlock = some gn ∨ w7.heap.size ≤ gn) := by
  have hu : Upd (fun k => k = g) wb w7 := (Upd.refl (fun k => k = g) wb).drew.to HU
  have hs7 := HS.other hu HP.1 (by decide) (by decide)
  obtain ⟨a, c, hv⟩ := own_slice HP7.2.2.1
  refine hs7.push d v7 (by rw [hd]; exact HP7.2.2.1) (fun i u k hu hk e => ?_) (by omega) (Nat.le_trans HP7.2.2.2.1 (Nat.le_of_lt HP7.1.lt)) (by rw [hv]; rfl)
  obtain ⟨d', hd'⟩ := HS.d hu
  have h1 := own_lt (HS.2.2.1 i d' u hd' hu) hk
  have h2 : wb.heap.size ≤ k := HN k e
  omega
theorem src_round {w wb w7 w8 : World} {B g br bs j7 : Nat} {tv v v7 vd nv u : Value} {ts : List Tk} {L p : Nat} {N N7 : List Nd} {D D8 : List Df} {vs vs8 : List Value} {gn n cap : Nat} (HK1 : Blk wb br 24 [u]) (HK2 : Blk wb bs 24 [vd]) (hne : br ≠ bs) (hbs : w.heap.size ≤ bs) (HS : Src wb B vd D vs) (HP : Par wb B g tv ts L p v N) (HP7 : Par w7 B g tv ts L j7 v7 N7) (HU7 : Upd (fun k => k = g) wb.drew w7) (hnv : nv = .slice (some ⟨gn, 0, none⟩) n cap) (HS8 : Src w8 B nv D8 vs8) (HU8 : Upd (fun k => vd.ownBlock = some k) w7 w8) (HC8 : vd.ownBlock = some gn ∨ w7.heap.size ≤ gn) (HU : Upd (fun k => k = g) w wb) (hvd : ∀ k, vd.ownBlock = some k → w.heap.size ≤ k) :
    Hid (Par (w8.setCell ⟨bs, 0, none⟩ nv) B g tv ts L j7 v7 N7) ∧ Hid (Src (w8.setCell ⟨bs, 0, none⟩ nv) B nv D8 vs8) ∧ Hid (Blk (w8.setCell ⟨bs, 0, none⟩ nv) br 24 [u]) ∧ Hid (Blk (w8.setCell ⟨bs, 0, none⟩ nv) bs 24 [nv]) ∧ Hid (Upd (fun k => k = g) w (w8.setCell ⟨bs, 0, none⟩ nv)) ∧ Hid (∀ k, nv.ownBlock = some k → w.heap.size ≤ k) := by
  have hu7 : Upd (fun k => k = g) wb w7 := (Upd.refl (fun k => k = g) wb).drew.to HU7
  have hgt : ∀ (b : Nat) (x : Value), Blk wb b 24 [x] → b ≠ g := fun b x hb e => by subst e; exact absurd (blk_type hb HP.1) (by decide)
  have hvt : ∀ (b : Nat) (x : Value), Blk wb b 24 [x] → vd.ownBlock ≠ some b := fun b x hb e => by
    obtain ⟨zs, hz⟩ := ownS_type HS.2.1 e
    exact absurd (blk_type hb hz) (by decide)
  have k1 := (HK1.upd hu7 (hgt _ _ HK1)).upd HU8 (hvt _ _ HK1)
  have k2 := (HK2.upd hu7 (hgt _ _ HK2)).upd HU8 (hvt _ _ HK2)
  have hs7 := HS.other hu7 HP.1 (by decide) (by decide)
  have hP8 : Par w8 B g tv ts L j7 v7 N7 := HP7.upd HU8 (fun e => by
      obtain ⟨zs, hz⟩ := ownS_type hs7.2.1 e
      exact absurd (blk_type HP7.1 hz) (by decide)) (fun k hk e => by
      obtain ⟨zs, hz⟩ := ownS_type hs7.2.1 e
      obtain ⟨ys, hy⟩ := ownS_type HP7.2.1 hk
      exact absurd (blk_type hy hz) (by decide)) (fun k hk e => by
      obtain ⟨zs, hz⟩ := ownS_type hs7.2.1 e
      obtain ⟨ys, hy⟩ := ownS_type HP7.2.2.1 hk
      exact absurd (blk_type hy hz) (by decide))
  have hU9 : Upd (fun k => k = bs) w8 (w8.setCell ⟨bs, 0, none⟩ nv) := (Upd.refl _ w8).set _ _ (.inl rfl)
  refine ⟨hP8.upd hU9 (fun e => ?_) (fun k hk e => ?_) (fun k hk e => ?_), HS8.other hU9 k2 (by decide) (by decide), k1.other _ _ hne, hide_ (by have := k2.set 0 nv; simpa using this), ?_, ?_⟩
  · subst e; exact absurd (blk_type hP8.1 k2) (by decide)
  · subst e
    obtain ⟨ys, hy⟩ := ownS_type hP8.2.1 hk
    exact absurd (blk_type hy k2) (by decide)
  · subst e
    obtain ⟨ys, hy⟩ := ownS_type hP8.2.2.1 hk
    exact absurd (blk_type hy k2) (by decide)
  · exact ((HU.to hu7).trans HU8 (fun k h1 h2 => by have := hvd k h2; omega)).set _ _ (.inr hbs)
  · intro k hk
    rw [hnv] at hk
    have e := own_is hk
    subst e
    rcases HC8 with h | h
    · exact hvd _ h
    · exact Nat.le_trans (HU.to hu7).size h
set_option maxRecDepth 100000 in
set_option maxHeartbeats 8000000 in
theorem source_any {w : World} {B g : Nat} {tv v : Value} {ts : List Tk} {L : Nat} {N : List Nd} (HP : Hid (Par w B g tv ts L 0 v N)) :
    Calls Tryd.prog 22 #[.pointer (some ⟨g, 0, none⟩)] w fun e w' => SrcTo w B g ts L (srcP (ts.map core) 257 [] 0) e w' := by
  obtain ⟨r, hr⟩ : ∃ r, srcP (ts.map core) 257 [] 0 = r := ⟨_, rfl⟩
  have HR := hide_ hr
  rw [hr]
  clear hr
  have hgw := HP.out.1.lt
  obtain ⟨k1, k2⟩ := blk2 w #[.slice none 0 0] #[.slice none 0 0] 24
  have HK1 := hide_ k1
  have HK2 := hide_ k2
  have HB0 := hide_ (below2 w (.cells #[.slice none 0 0] 24) (.cells #[.slice none 0 0] 24))
  have HPa := hide_ (HP.out.later HB0.out)
  clear k1 k2 HP
  go_enter Tryd.func22, Tryd.ntmps22
  go_wp2_with fail
  go_loopw [] (fun wr => ∃ (q : Nat) (v : Value) (N : List Nd) (D : List Df) (vd : Value) (vs : List Value), D.length ≤ 256 ∧ Hid (srcP (ts.map core) (257 - D.length) D q = r) ∧ Hid (Par wr B g tv ts L q v N) ∧ Hid (Src wr B vd (D.map (dfP ts L)) vs) ∧ Hid (Blk wr w.heap.size 24 [.slice none 0 0]) ∧ Hid (Blk wr (w.heap.size + 1) 24 [vd]) ∧ Hid (Upd (fun k => k = g) w wr) ∧ Hid (∀ k, vd.ownBlock = some k → w.heap.size ≤ k)) (fun wr => match wr.cell? ⟨w.heap.size + 1, 0, none⟩ with | some (.slice _ n _) => 257 - n | _ => 0)
  case atStart => exact ⟨0, v, N, [], .slice none 0 0, [], Nat.zero_le _, HR, HPa, Src.nil _ _, HK1, HK2, Upd.of_below HB0.out, fun k hk => by cases hk⟩
  case round =>
    clear HR HPa HK1 HK2 HB0
    obtain ⟨q, v, N, D, vd, vs, hD, HRl, HPq, HS, HK1, HK2, HU, HVd⟩ := hrel
    generalize wr = wq at *
    obtain ⟨fu, hfu⟩ : ∃ fu, 257 - D.length = fu + 1 := ⟨256 - D.length, by omega⟩
    rw [hfu] at HRl
    obtain ⟨ta, tc, htv⟩ := own_slice HPq.out.2.1
    obtain ⟨da, dc, hdv⟩ := own_slice HS.out.2.1
    rw [List.length_map] at hdv
    have hq := HPq.out.2.2.2.2.1
    have c0 := HPq.out.1.cell 0; have c1 := HPq.out.1.cell 1
    simp at c0 c1
    rw [htv] at c0
    by_cases hlt : q < (ts.map core).length
    · have HSr : Hid (bnd (txt (ts.map core) ⟨#[116, 121, 112, 101]⟩ q) (fun i1 => if fu = 0 then .error (5, q) else bnd (defP (ts.map core) i1) fun r => srcP (ts.map core) fu (D ++ [r.1]) r.2) = r) := by
        show _ = _
        have := HRl.out
        unfold srcP at this
        rw [if_pos hlt] at this
        exact this
      rw [List.length_map] at hlt
      have hlt' : (q : Int) < ts.length := by omega
      clear HRl
      go_wp2_with fail
      go_quiet (fail)
      go_wp2_with fail
      have hBd := below_drewN (Below.refl wq.heap.size wq) nq
      have HPd := hide_ (HPq.out.later hBd)
      have HSd := hide_ (HS.out.later hBd)
      have HK1d := hide_ (HK1.out.later hBd)
      have HK2d := hide_ (HK2.out.later hBd)
      have HUd := hide_ (HU.out.then hBd)
      clear hBd
      refine (text_any HPd ⟨#[116, 121, 112, 101]⟩ (by decide)).mono ?_; rintro e w1 (⟨i1, hj, rfl, HP1, HUt⟩ | ⟨y, hy, rfl, HUt⟩)
      case inr =>
        have HJ := hide_ hy
        clear hy
        unfold Flt
        go_wp2
        exact ⟨rfl, .inr ⟨y, by rw [← HSr.out, HJ.out, bnd_err], rfl, hide_ (HUd.out.to HUt.out)⟩⟩
      have HJ1 := hide_ hj
      have HS1 := hide_ (HSd.out.other HUt.out HPd.out.1 (by decide) (by decide))
      have hgl := HPd.out.1.lt
      have hu := HU.out.size
      have HK11 := hide_ (HK1d.out.upd HUt.out (by show ¬ w.heap.size = g; omega))
      have HK21 := hide_ (HK2d.out.upd HUt.out (by show ¬ w.heap.size + 1 = g; omega))
      have HU1 := hide_ (HUd.out.to HUt.out)
      clear hj HPd HSd HK1d HK2d HUd HUt HPq HS HU c0 c1
      have HQ : Hid (plc ts L q = (tkAt ts L q).a) := rfl
      obtain ⟨x, hx⟩ : ∃ x, tkAt ts L q = x := ⟨_, rfl⟩
      rw [hx] at HQ ⊢
      clear hx
      have hBb := (Below.refl w1.heap.size w1).alloc (Nat.le_refl _) (.cells #[.int .i64 x.k, .string x.t, .int .i64 x.n, .int .i64 x.a, .int .i64 x.e] 72)
      have KT := hide_ (Blk.newA w1 #[.int .i64 x.k, .string x.t, .int .i64 x.n, .int .i64 x.a, .int .i64 x.e] 72)
      have HP2 := hide_ (HP1.out.later hBb)
      have HS2 := hide_ (HS1.out.later hBb)
      have HK12 := hide_ (HK11.out.later hBb)
      have HK22 := hide_ (HK21.out.later hBb)
      have HU2 := hide_ (HU1.out.then hBb)
      obtain ⟨wb, hwb⟩ : ∃ wb, wb = w1.alloc (.cells #[.int .i64 x.k, .string x.t, .int .i64 x.n, .int .i64 x.a, .int .i64 x.e] 72) := ⟨_, rfl⟩
      rw [← hwb] at KT HP2 HS2 HK12 HK22 HU2
      clear hBb HP1 HS1 HK11 HK21 HU1 HK1
      have s0 := HK22.out.cell 0
      simp at s0
      rw [hdv] at s0
      have t3 := KT.out.cell 3
      simp at t3
      unfold tkv
      go_upto_region 4 with fail
      rw [← hwb]
      clear hwb
      by_cases h256 : D.length = 256
      · have HE : Hid (r = .error (5, q)) := by
          show _ = _
          rw [← HSr.out, HJ1.out, bnd_ok, if_pos (by omega)]
        have hb : ((D.length : Int) == 256) = true := by simp [h256]
        have HG := hide_ (fun W => giveUp_any 5 x.a W)
        go_wp2_with fail
        refine (HG.out _).mono ?_; rintro e w6 ⟨rfl, rfl⟩
        unfold Flt
        go_wp2
        exact ⟨rfl, .inr ⟨(5, q), HE.out, by rw [HQ.out]; rfl, HU2⟩⟩
      have hb : ((D.length : Int) == 256) = false := by simp; omega
      have HPd := hide_ (HP2.out.later ((Below.refl _ wb).drew))
      have HDf := hide_ (def_any HPd)
      go_wp2_with fail
      go_region_law (first
        | (go_simp; go_at_call 37; refine HDf.out.mono ?_; rintro e w7 (⟨Dd, j7, v7, hj7, rfl, HP7, HU7, HN7⟩ | ⟨y, hy, rfl, HU7⟩); rotate_left;
           (unfold Flt; exact ⟨rfl, .inr ⟨y, by rw [← HSr.out, HJ1.out, bnd_ok, if_neg (by omega), hy, bnd_err], rfl, hide_ (HU2.out.drew.to HU7.out)⟩⟩);
           (have HJ7 := hide_ hj7);
           (clear hj7);
           (obtain ⟨d', hd'⟩ : ∃ d', dfP ts L Dd = d' := ⟨_, rfl⟩);
           (have HDd := hide_ hd');
           (rw [hd']);
           (clear hd');
           (obtain ⟨va7, vc7, hv7⟩ := own_slice HP7.out.2.2.1);
           (subst hv7);
           (obtain ⟨gn, cap, w8, R8, S8, U8, C8⟩ := src_next HS2.out HP2.out HP7.out HU7.out HN7.out (d := d') (by rw [← HDd.out]; rfl) (by rw [List.length_map]; exact hD));
           (have HR8 := hide_ R8);
           (rw [hdv, List.length_map] at HR8);
           (have HS8 := hide_ S8);
           (have HU8 := hide_ U8);
           (have HC8 := hide_ C8);
           (clear R8 S8 U8 C8);
           (have K7 := hide_ (HK22.out.upd ((Upd.refl (fun k => k = g) wb).drew.to HU7.out) (by show ¬ w.heap.size + 1 = g; omega)));
           (have s7 := K7.out.cell 0);
           (simp at s7);
           (rw [hdv] at s7);
           (have s7a : ∀ ob, (w7.alloc ob).cell? ⟨w.heap.size + 1, 0, none⟩ = some (.slice da D.length dc) := fun ob => (cell_al w7 ob _ _ K7.out.lt).trans s7);
           (have K8 := hide_ (K7.out.upd HU8.out (fun e => by obtain ⟨zs, hz⟩ := ownS_type HS2.out.2.1 e; exact absurd (blk_type HK22.out hz) (by decide))));
           (have s8 := K8.out.cell 0);
           (have z8 := K8.out.frozen 0);
           (simp at s8);
           (unfold dfv))
        | (refine step_append_run rfl (.tmp 25) (.tmp 28) 22 22 rfl rfl rfl HR8.out ?_))
      all_goals
        obtain ⟨p9, s9, k19, k29, u9, v9⟩ := src_round HK12.out HK22.out (by omega) (by omega) HS2.out HP2.out HP7.out HU7.out rfl HS8.out HU8.out HC8.out HU2.out HVd.out
        have hf9 : fu = 257 - (D ++ [Dd]).length := by simp; omega
        have HR9 : Hid (srcP (ts.map core) (257 - (D ++ [Dd]).length) (D ++ [Dd]) j7 = r) := by
          show _ = _
          rw [← HSr.out, HJ1.out, bnd_ok, if_neg (by omega), HJ7.out, bnd_ok, hf9]
        have HS9 : Hid (Src (w8.setCell ⟨w.heap.size + 1, 0, none⟩ (.slice (some ⟨gn, 0, none⟩) (D.length + 1) cap)) B (.slice (some ⟨gn, 0, none⟩) (D.length + 1) cap) ((D ++ [Dd]).map (dfP ts L)) (vs ++ [.slice va7 Dd.ty.length vc7])) := by
          have h := s9.out
          rw [List.length_map] at h
          rw [List.map_append, List.map_cons, List.map_nil, HDd.out]
          exact hide_ (by simpa using h)
        rw [List.length_map] at p9 k19 k29 u9 v9
        have c9 := k29.out.cell 0
        have HM : Hid ((wq.cell? ⟨w.heap.size + 1, 0, none⟩) = some (.slice da D.length dc)) := by
          have h := HK2.out.cell 0
          rw [hdv] at h
          exact h
        simp at c9
        go_wp2
        go_roundw
        case rel => exact ⟨j7, _, _, D ++ [Dd], _, _, by simp; omega, HR9, p9, HS9, k19, k29, u9, v9⟩
        case measure => rw [HM.out, c9]; simp; omega
    · have HE : Hid (r = .ok D) := by
        show _ = _
        have := HRl.out
        unfold srcP at this
        rw [if_neg hlt] at this
        exact this.symm
      rw [List.length_map] at hlt
      have hq2 : (ts.length : Int) ≤ q := by omega
      have hq3 : ¬ (q : Int) < ts.length := by omega
      clear HRl
      have s0 := HK2.out.cell 0
      have r0 := HK1.out.cell 0
      have z0 := HK1.out.frozen 0
      simp at s0 r0
      go_wp2_with fail
      go_quiet (fail)
      go_wp2
      have hBd := below_drewN (Below.refl wq.heap.size wq) nq
      have k1 := HK1.out.later hBd
      have hS := HS.out.later hBd
      have hU9 : Upd (fun k => k = w.heap.size) (wq.drewN nq) ((wq.drewN nq).setCell ⟨w.heap.size, 0, none⟩ (.slice da D.length dc)) := (Upd.refl _ _).set _ _ (.inl rfl)
      have hS9 := hS.other hU9 k1 (by decide) (by decide)
      rw [hdv] at hS9
      exact retS rfl rfl (by have h := k1.set 0 (.slice da D.length dc); simpa using h) (.inl ⟨D, _, vs, HE.out, rfl, hide_ ⟨hS9, hD⟩, hide_ ((HU.out.then hBd).trans hU9 (fun k h1 h2 => by omega))⟩)
end Go.Proofs.YtafljgjkcnbhbaaDoor

/- Parse. -/
namespace Go.Proofs.YtafljgjkcnbhbaaDoor
open Go.RowKit
set_option linter.unusedVariables false

theorem results_cells {P : Program} {fn : Func} {p q : Tmp} {t1 t2 : TypeId} (h : fn.results = #[.cell p t1, .cell q t2]) (tmps : Array Value) (w : World) (g1 g2 : Nat) (c1 c2 : Array Value) (f1 f2 : Nat × Nat) (d1 d2 : TypeDesc)
    (hp : tmps.getD p undef = .pointer (some ⟨g1, 0, none⟩)) (hq : tmps.getD q undef = .pointer (some ⟨g2, 0, none⟩)) (hg1 : w.heap[g1]? = some (.cells c1 t1 f1)) (hg2 : w.heap[g2]? = some (.cells c2 t2 f2))
    (hu1 : P.underlying t1 = some d1) (hd1 : (match d1 with | .struct _ | .array _ _ => true | _ => false) = true) (hi1 : (P.info? t1).map (·.size) = some c1.size)
    (hu2 : P.underlying t2 = some d2) (hd2 : (match d2 with | .struct _ | .array _ _ => true | _ => false) = true) (hi2 : (P.info? t2).map (·.size) = some c2.size) :
    (results fn tmps).run P w = .ok (.tuple #[.agg c1, .agg c2]) w := by
  have hp' : tmps[p]?.getD undef = .pointer (some ⟨g1, 0, none⟩) := by simpa using hp
  have hq' : tmps[q]?.getD undef = .pointer (some ⟨g2, 0, none⟩) := by simpa using hq
  simp only [results, h]
  simp [hp', hq', asAddr, Result.andThen, run_loadVar_row w g1 t1 t1 c1 f1 d1 hg1 hu1 hd1 hi1, run_loadVar_row w g2 t2 t2 c2 f2 d2 hg2 hu2 hd2 hi2]
set_option maxRecDepth 100000 in
set_option maxHeartbeats 4000000 in
theorem catch_idle (a b : Addr) (w : World) :
    CallsD Tryd.prog 21 #[.pointer (some a), .pointer (some b)] .returning w fun e u' w' => e = .returned (.tuple #[]) ∧ u' = .returning ∧ w' = w := by
  refine callsD_of_wpS Tryd.func21 rfl fun c₀ cs hu => ?_
  simp only [Tryd.ntmps21, List.size_toArray, List.length_cons, List.length_nil, Nat.reduceAdd, Nat.reduceSub, Array.replicate_succ, Array.replicate_zero, List.push_toArray, List.append_toArray, List.nil_append, List.cons_append]
  apply wpS_seq
  apply wpS_region
  simp [wpOpsS, go_sem, recoverD, hu, Exit.thenS]
  refine wpS_of_wp ?_
  have hnil : ∀ w : World, (binOp BinOp.neq 20 .nilIface .nilIface).run Tryd.prog w = .ok (.bool false) w := fun _ => by kernel_rfl
  go_wp2
  cases c₀
  simp_all [bodyPostS, results, Tryd.results21]
set_option maxRecDepth 100000 in
set_option maxHeartbeats 4000000 in
theorem catch_panic (bs bf c a : Nat) (x y0 y1 : Value) (w : World) (hS : Blk w bs 24 [x]) (hF : Blk w bf 33 [y0, y1]) :
    CallsD Tryd.prog 21 #[.pointer (some ⟨bs, 0, none⟩), .pointer (some ⟨bf, 0, none⟩)] (.panicking [{ v := .iface 33 (.agg #[.int .i64 c, .int .i64 a]), recovered := false }]) w fun e u' w' => e = .returned (.tuple #[]) ∧ u' = .panicking [{ v := .iface 33 (.agg #[.int .i64 c, .int .i64 a]), recovered := true }] ∧ w' = (((w.setCell ⟨bs, 0, none⟩ (.slice none 0 0)).setCell ⟨bf, 0, none⟩ (.int .i64 c)).setCell ⟨bf, 1, none⟩ (.int .i64 a)).drew := by
  refine callsD_of_wpS Tryd.func21 rfl fun c₀ cs hu => ?_
  simp only [Tryd.ntmps21, List.size_toArray, List.length_cons, List.length_nil, Nat.reduceAdd, Nat.reduceSub, Array.replicate_succ, Array.replicate_zero, List.push_toArray, List.append_toArray, List.nil_append, List.cons_append]
  apply wpS_seq
  apply wpS_region
  simp [wpOpsS, go_sem, recoverD, hu, Exit.thenS]
  refine wpS_of_wp ?_
  have hnil : ∀ w : World, (binOp BinOp.neq 20 (.iface 33 (.agg #[.int .i64 c, .int .i64 a])) .nilIface).run Tryd.prog w = .ok (.bool true) w := fun _ => by kernel_rfl
  have hta : ∀ w : World, (Instr.typeAssert (.iface 33 (.agg #[.int .i64 c, .int .i64 a])) 20 33 false).run Tryd.prog w = .ok (.agg #[.int .i64 c, .int .i64 a]) w := fun _ => by kernel_rfl
  have hne : ¬ bs = bf := fun e => by subst e; exact absurd (blk_type hS hF) (by decide)
  have hne' : ¬ bf = bs := fun e => hne e.symm
  have s0 := hS.cell 0
  have f0 := hF.cell 0; have f1 := hF.cell 1
  have z0 := hS.frozen 0; have z1 := hF.frozen 0; have z2 := hF.frozen 1
  simp at s0 f0 f1
  go_wp2
  go_region
  go_wp2
  simp [bodyPostS, results, Tryd.results21]
end Go.Proofs.YtafljgjkcnbhbaaDoor

/- Parse's answer. -/
namespace Go.Proofs.YtafljgjkcnbhbaaDoor
open Go.RowKit
set_option linter.unusedVariables false

theorem cut_few (s : ByteArray) : (cutT s).1.length ≤ 65536 := by
  have key : ∀ (l : List UInt8) (p : Nat), (cut l p).1.length ≤ l.length := by
    intro l p
    refine cut_ind (fun l p => (cut l p).1.length ≤ l.length) ?_ ?_ ?_ ?_ ?_ ?_ l p
    · intro p; simp [cut_nil]
    · intro c r p hb ih; rw [cut_blank r p hb]; simp; omega
    · intro c r p hs h2; rw [cut_end p hs h2]; simp
    · intro c r d s p hs h2 h3 ih; rw [cut_rem p hs h2 h3]; simp; omega
    · intro c r p hb hs he; rw [cut_bad r p hb hs he]; simp
    · intro w s p hw ho ih
      rw [cut_word hw ho p]
      have := hw.pos
      unfold app
      split
      · simp; omega
      · simp; omega
  unfold cutT
  split
  · simp
  · have := key s.data.toList 0
    rw [← Lib.size_eq] at this
    omega
/-- Parse's answer: the source, in new memory, and the fault. -/
def PrsTo (s : ByteArray) (w : World) (e : Ending) (w' : World) : Prop :=
  ∃ vd vs, e = .returned (.tuple #[.agg #[vd], .agg #[.int .i64 (prsT s).2.1, .int .i64 (prsT s).2.2]]) ∧ Hid (Src w' w.heap.size vd (prsT s).1 vs ∧ (prsT s).1.length ≤ 256) ∧ Hid (Below w.heap.size w w')
theorem retP {R : Ending → World → Prop} {tmps : Array Value} {b1 b2 : Nat} {w : World} {v x y : Value} (hp : tmps.getD 2 undef = .pointer (some ⟨b1, 0, none⟩)) (hq : tmps.getD 3 undef = .pointer (some ⟨b2, 0, none⟩)) (h1 : Blk w b1 24 [v]) (h2 : Blk w b2 33 [x, y]) (hR : R (.returned (.tuple #[.agg #[v], .agg #[x, y]])) w) :
    Leaves Tryd.prog Tryd.f12 tmps R [] .returning w :=
  ⟨_, results_cells rfl _ _ _ _ #[v] #[x, y] _ _ _ _ hp hq h1 h2 Tryd.underlying24 rfl (by show _ = some 1; kernel_rfl) Tryd.underlying33 rfl (by show _ = some 2; kernel_rfl), hR⟩
theorem own_base {w : World} {B B' n c : Nat} {e : TypeId} {v : Value} {xs : List Value} (h : w.ownsRow B e c v n xs) (hb : B' ≤ B) : w.ownsRow B' e c v n xs := by
  refine ⟨h.1, ?_⟩
  rcases h.2 with h | ⟨g, cap, cur, rfl, hg, rest⟩
  · exact .inl h
  · exact .inr ⟨g, cap, cur, rfl, Nat.le_trans hb hg, rest⟩
theorem prs_bad {s : ByteArray} (h : (cutT s).2.1 ≠ 0) : prsT s = ([], (cutT s).2.1, (cutT s).2.2) := by unfold prsT; rw [if_neg h]
theorem prs_ok {s : ByteArray} (h : (cutT s).2.1 = 0) {D : List Df} (hr : srcP ((cutT s).1.map core) 257 [] 0 = .ok D) : prsT s = (D.map (dfP (cutT s).1 s.size), 0, 0) := by unfold prsT prsP; rw [if_pos h, hr]
theorem prs_err {s : ByteArray} (h : (cutT s).2.1 = 0) {y : Nat × Nat} (hr : srcP ((cutT s).1.map core) 257 [] 0 = .error y) : prsT s = ([], y.1, plc (cutT s).1 s.size y.2) := by unfold prsT prsP; rw [if_pos h, hr]
theorem below_set {B : Nat} {w w' : World} (h : Below B w w') (b i : Nat) (v : Value) (hb : B ≤ b) : Below B w (w'.setCell ⟨b, i, none⟩ v) := h.setCell hb v
theorem par_new {w : World} {B : Nat} {v : Value} {ts : List Tk} (h : w.ownsRow B 72 5 v ts.length (cellsT ts)) (hB : B ≤ w.heap.size) (hl : ts.length ≤ 65536) (L : Nat) :
    Par (w.alloc (.cells #[v, .int .i64 0, .int .i64 L, .slice none 0 0] 57)) B w.heap.size v ts L 0 (.slice none 0 0) [] :=
  ⟨Blk.newA w #[v, .int .i64 0, .int .i64 L, .slice none 0 0] 57, ownS_upd h (Upd.of_below (S := fun _ => False) ((Below.refl _ _).alloc (Nat.le_refl _) _)) (fun _ _ h => h), World.ownsRow_nil _ _ _ _, hB, Nat.zero_le _, hl⟩
set_option maxRecDepth 100000 in
set_option maxHeartbeats 8000000 in
theorem parse_any (s : ByteArray) (w : World) : Calls Tryd.prog 12 #[.string s] w fun e w' => PrsTo s w e w' := by
  have hmf : ∀ (fn : Fn) (first cap : Array Value) (w : World), (Instr.makeFunc fn first cap).run Tryd.prog w = .ok (.func fn first cap) w := fun _ _ _ _ => rfl
  obtain ⟨wa, hwa⟩ : ∃ wa, wa = (w.alloc (.cells #[.slice none 0 0] 24)).alloc (.cells #[.int .i64 0, .int .i64 0] 33) := ⟨_, rfl⟩
  have k1 : Blk wa w.heap.size 24 [.slice none 0 0] := by rw [hwa]; exact (Blk.newA w #[.slice none 0 0] 24).alloc _
  have k2 : Blk wa (w.heap.size + 1) 33 [.int .i64 0, .int .i64 0] := by
    have h := Blk.newA (w.alloc (.cells #[.slice none 0 0] 24)) #[.int .i64 0, .int .i64 0] 33
    rw [hwa]
    simpa using h
  have hBa : Below w.heap.size w wa := by rw [hwa]; exact ((Below.refl _ _).alloc (Nat.le_refl _) _).alloc (by simp) _
  have hsz : wa.heap.size = w.heap.size + 2 := by rw [hwa]; simp
  have HCt := hide_ (cut_any s wa)
  have hfew := cut_few s
  by_cases hE : (cutT s).2.1 = 0
  · obtain ⟨ts, E, A, hc⟩ : ∃ ts E A, cutT s = (ts, E, A) := ⟨_, _, _, rfl⟩
    have HC := hide_ hc
    have hE0 : E = 0 := by rw [hc] at hE; exact hE
    have hA0 : A = 0 := by
      have h := (cut_form s.data.toList 0).2
      unfold cutT at hc
      split at hc
      · injection hc with h1 h2
        injection h2 with h2 h3
        exact h3.symm
      · rw [hc] at h
        exact h hE0
    subst hE0 hA0
    have HPr : Hid ((∀ D, srcP (ts.map core) 257 [] 0 = .ok D → prsT s = (D.map (dfP ts s.size), 0, 0)) ∧ ∀ y, srcP (ts.map core) 257 [] 0 = .error y → prsT s = ([], y.1, plc ts s.size y.2)) := ⟨fun D h => by have h2 := prs_ok hE (D := D) (by rw [hc]; exact h); rw [hc] at h2; exact h2, fun y h => by have h2 := prs_err hE (y := y) (by rw [hc]; exact h); rw [hc] at h2; exact h2⟩
    have HK1 := hide_ k1; have HK2 := hide_ k2; have HB := hide_ hBa; have HS := hide_ hsz
    have hts : ts.length ≤ 65536 := by rw [hc] at hfew; exact hfew
    clear k1 k2 hBa hsz hc hE hfew
    go_enter_defers Tryd.func12, Tryd.ntmps12
    go_wp2_with fail
    rw [← hwa]
    clear hwa
    refine HCt.out.mono ?_; rintro e w2 ⟨v, rfl, HV, HB2⟩
    rw [HC.out] at HV ⊢
    have K1 := hide_ (HK1.out.later HB2.out)
    have K2 := hide_ (HK2.out.later HB2.out)
    have HBb := hide_ (HB.out.trans (HB2.out.mono HB.out.size))
    have c0 := K2.out.cell 0; have c1 := K2.out.cell 1
    have z0 := K2.out.frozen 0; have z1 := K2.out.frozen 1
    simp at c0 c1
    have n1 : ¬ w.heap.size = w.heap.size + 1 := by omega
    have n2 : ¬ w.heap.size + 1 = w.heap.size := by omega
    obtain ⟨va, vc, hva⟩ := own_slice HV.out
    have HVb := hide_ (own_base (B' := w.heap.size) HV.out (by rw [HS.out]; omega))
    have K1c := hide_ ((K1.out.other ⟨w.heap.size + 1, 0, none⟩ (.int .i64 0) n1).other ⟨w.heap.size + 1, 1, none⟩ (.int .i64 0) n1)
    have K2c := hide_ ((K2.out.set 0 (.int .i64 0)).set 1 (.int .i64 0))
    have hU : Upd (fun k => k = w.heap.size + 1) w2 ((w2.setCell ⟨w.heap.size + 1, 0, none⟩ (.int .i64 0)).setCell ⟨w.heap.size + 1, 1, none⟩ (.int .i64 0)) := ((Upd.refl (fun k => k = w.heap.size + 1) w2).set ⟨w.heap.size + 1, 0, none⟩ _ (.inl rfl)).set ⟨w.heap.size + 1, 1, none⟩ _ (.inl rfl)
    have HVc := hide_ (ownS_upd HVb.out hU (fun k hk e => by
      obtain ⟨ys, hy⟩ := ownS_type HVb.out hk
      subst e
      exact absurd (blk_type hy K2.out) (by decide)))
    have hle : w.heap.size ≤ w.heap.size + 1 := by omega
    have HBc := hide_ (below_set (below_set HBb.out (w.heap.size + 1) 0 (.int .i64 0) hle) (w.heap.size + 1) 1 (.int .i64 0) hle)
    have hs2 := K2.out.lt
    obtain ⟨w3, hw3⟩ : ∃ w3, w3 = (w2.setCell ⟨w.heap.size + 1, 0, none⟩ (.int .i64 0)).setCell ⟨w.heap.size + 1, 1, none⟩ (.int .i64 0) := ⟨_, rfl⟩
    have HS3 : Hid (w3.heap.size = w2.heap.size) := by show _ = _; rw [hw3]; simp
    rw [← hw3] at K1c K2c HVc HBc
    have HPp := par_new HVc.out HBc.out.size hts s.size
    have K1d := hide_ (K1c.out.alloc (.cells #[v, .int .i64 0, .int .i64 s.size, .slice none 0 0] 57))
    have K2d := hide_ (K2c.out.alloc (.cells #[v, .int .i64 0, .int .i64 s.size, .slice none 0 0] 57))
    have HBd := hide_ (HBc.out.alloc HBc.out.size (.cells #[v, .int .i64 0, .int .i64 s.size, .slice none 0 0] 57))
    subst hva
    obtain ⟨w4, hw4⟩ : ∃ w4, w4 = w3.alloc (.cells #[.slice va ts.length vc, .int .i64 0, .int .i64 s.size, .slice none 0 0] 57) := ⟨_, rfl⟩
    rw [← hw4] at HPp K1d K2d HBd
    have HPh := hide_ HPp
    have HSr := hide_ (source_any HPh)
    obtain ⟨r, hr⟩ : ∃ r, srcP (ts.map core) 257 [] 0 = r := ⟨_, rfl⟩
    rw [hr] at HSr HPr
    clear hU hr HPp
    have HW4 := hide_ hw4
    clear hw4
    go_upto_region 2 with fail
    rw [← hw3]
    clear hw3
    have e0 := K2c.out.cell 0; have e1 := K2c.out.cell 1
    simp at e0 e1
    go_wp2_with fail
    rw [← HW4.out]
    have hd1 := K1d.out.lt
    have hgl := HPh.out.1.lt
    have hs3' := HS3.out
    refine HSr.out.mono ?_; rintro e w5 (⟨D, vd, vs, hD, rfl, HS5, HU5⟩ | ⟨y, hy, rfl, HU5⟩)
    · have hP := HPr.out.1 D hD
      have HP := hide_ hP
      clear hP hD
      have K15 := hide_ (K1d.out.upd HU5.out (by show ¬ w.heap.size = w3.heap.size; omega))
      have K25 := hide_ (K2d.out.upd HU5.out (by show ¬ w.heap.size + 1 = w3.heap.size; omega))
      have HB5 := hide_ (HBd.out.trans (HU5.out.below w.heap.size HBd.out.size (fun k hk => by omega)))
      have c0 := K15.out.cell 0; have x0 := K15.out.frozen 0
      have d0 := K25.out.cell 0; have d1 := K25.out.cell 1
      have y0 := K25.out.frozen 0; have y1 := K25.out.frozen 1
      simp at c0 d0 d1
      clear hs3'
      obtain ⟨da, dc, hdv⟩ := own_slice HS5.out.1.2.1
      subst hdv
      go_wp2
      refine leaves_cons (f := 21) (args := #[.pointer (some ⟨w.heap.size, 0, none⟩), .pointer (some ⟨w.heap.size + 1, 0, none⟩)]) (by simp) (by simp [go_sem]) ?_
      refine (catch_idle _ _ _).mono ?_
      rintro e u' w6 ⟨rfl, rfl, rfl⟩
      have q1 := ((K15.out.set 0 (.slice da (D.map (dfP ts s.size)).length dc)).other ⟨w.heap.size + 1, 0, none⟩ (.int .i64 0) n1).other ⟨w.heap.size + 1, 1, none⟩ (.int .i64 0) n1
      have q2 := ((K25.out.other ⟨w.heap.size, 0, none⟩ (.slice da (D.map (dfP ts s.size)).length dc) n2).set 0 (.int .i64 0)).set 1 (.int .i64 0)
      have hb := below_set (below_set (below_set HB5.out w.heap.size 0 (.slice da (D.map (dfP ts s.size)).length dc) (Nat.le_refl _)) (w.heap.size + 1) 0 (.int .i64 0) hle) (w.heap.size + 1) 1 (.int .i64 0) hle
      have hu1 : Upd (fun k => k = w.heap.size) w5 (w5.setCell ⟨w.heap.size, 0, none⟩ (.slice da (D.map (dfP ts s.size)).length dc)) := (Upd.refl (fun k => k = w.heap.size) w5).set ⟨w.heap.size, 0, none⟩ _ (.inl rfl)
      have hS1 := HS5.out.1.other hu1 K15.out (by decide) (by decide)
      have kf := K25.out.other ⟨w.heap.size, 0, none⟩ (.slice da (D.map (dfP ts s.size)).length dc) n2
      have hu2 : Upd (fun k => k = w.heap.size + 1) (w5.setCell ⟨w.heap.size, 0, none⟩ (.slice da (D.map (dfP ts s.size)).length dc)) (((w5.setCell ⟨w.heap.size, 0, none⟩ (.slice da (D.map (dfP ts s.size)).length dc)).setCell ⟨w.heap.size + 1, 0, none⟩ (.int .i64 0)).setCell ⟨w.heap.size + 1, 1, none⟩ (.int .i64 0)) := ((Upd.refl (fun k => k = w.heap.size + 1) _).set ⟨w.heap.size + 1, 0, none⟩ _ (.inl rfl)).set ⟨w.heap.size + 1, 1, none⟩ _ (.inl rfl)
      have hS2 := hS1.other hu2 kf (by decide) (by decide)
      rw [List.length_map] at q1 q2 hb hS2
      show Leaves _ _ _ _ [] .returning _
      exact retP rfl rfl q1 q2 ⟨_, vs, by rw [HP.out]; rfl, hide_ (by rw [HP.out]; exact ⟨hS2, by rw [List.length_map]; exact HS5.out.2⟩), hb⟩
    · have hP := HPr.out.2 y hy
      have HP := hide_ hP
      clear hP hy
      have K15 := hide_ (K1d.out.upd HU5.out (by show ¬ w.heap.size = w3.heap.size; omega))
      have K25 := hide_ (K2d.out.upd HU5.out (by show ¬ w.heap.size + 1 = w3.heap.size; omega))
      have HB5 := hide_ (HBd.out.trans (HU5.out.below w.heap.size HBd.out.size (fun k hk => by omega)))
      clear hs3'
      unfold Flt
      go_wp2
      refine leaves_cons (f := 21) (args := #[.pointer (some ⟨w.heap.size, 0, none⟩), .pointer (some ⟨w.heap.size + 1, 0, none⟩)]) (by simp) (by simp [go_sem]) ?_
      refine (catch_panic _ _ _ _ _ _ _ _ K15.out K25.out).mono ?_
      rintro e u' w6 ⟨rfl, rfl, rfl⟩
      have q1 := (((K15.out.set 0 (.slice none 0 0)).other ⟨w.heap.size + 1, 0, none⟩ (.int .i64 y.1) n1).other ⟨w.heap.size + 1, 1, none⟩ (.int .i64 (plc ts s.size y.2)) n1).drew
      have q2 := (((K25.out.other ⟨w.heap.size, 0, none⟩ (.slice none 0 0) n2).set 0 (.int .i64 y.1)).set 1 (.int .i64 (plc ts s.size y.2))).drew
      have hb := (below_set (below_set (below_set HB5.out w.heap.size 0 (.slice none 0 0) (Nat.le_refl _)) (w.heap.size + 1) 0 (.int .i64 y.1) hle) (w.heap.size + 1) 1 (.int .i64 (plc ts s.size y.2)) hle).drew
      show Leaves _ _ _ _ [] .returning _
      exact retP rfl rfl q1 q2 ⟨_, [], by rw [HP.out], hide_ (by rw [HP.out]; exact ⟨Src.nil _ _, Nat.zero_le _⟩), hb⟩
  · have HX := hide_ (prs_bad hE)
    obtain ⟨ts, E, A, hc⟩ : ∃ ts E A, cutT s = (ts, E, A) := ⟨_, _, _, rfl⟩
    have HC := hide_ hc
    have hE' : ((E : Int) != 0) = true := by rw [hc] at hE; simp; exact hE
    have HK1 := hide_ k1; have HK2 := hide_ k2; have HB := hide_ hBa; have HS := hide_ hsz
    clear k1 k2 hBa hsz hc hE
    go_enter_defers Tryd.func12, Tryd.ntmps12
    go_wp2_with fail
    rw [← hwa]
    clear hwa
    refine HCt.out.mono ?_; rintro e w2 ⟨v, rfl, HV, HB2⟩
    rw [HC.out]
    have K1 := hide_ (HK1.out.later HB2.out)
    have K2 := hide_ (HK2.out.later HB2.out)
    have HBb := hide_ (HB.out.trans (HB2.out.mono HB.out.size))
    have c0 := K2.out.cell 0; have c1 := K2.out.cell 1
    have z0 := K2.out.frozen 0; have z1 := K2.out.frozen 1
    have d0 := K1.out.cell 0; have y0 := K1.out.frozen 0
    simp at c0 c1 d0
    have n1 : ¬ w.heap.size = w.heap.size + 1 := by omega
    have n2 : ¬ w.heap.size + 1 = w.heap.size := by omega
    go_wp2_with fail
    go_region
    go_wp2
    have q1 := (((((K1.out.other ⟨w.heap.size + 1, 0, none⟩ (.int .i64 E) n1).other ⟨w.heap.size + 1, 1, none⟩ (.int .i64 A) n1).set 0 (.slice none 0 0)).other ⟨w.heap.size + 1, 0, none⟩ (.int .i64 E) n1).other ⟨w.heap.size + 1, 1, none⟩ (.int .i64 A) n1).drew
    have q2 := (((((K2.out.set 0 (.int .i64 E)).set 1 (.int .i64 A)).other ⟨w.heap.size, 0, none⟩ (.slice none 0 0) n2).set 0 (.int .i64 E)).set 1 (.int .i64 A)).drew
    have hle : w.heap.size ≤ w.heap.size + 1 := by omega
    have hb := (below_set (below_set (below_set (below_set (below_set HBb.out (w.heap.size + 1) 0 (.int .i64 E) hle) (w.heap.size + 1) 1 (.int .i64 A) hle) w.heap.size 0 (.slice none 0 0) (Nat.le_refl _)) (w.heap.size + 1) 0 (.int .i64 E) hle) (w.heap.size + 1) 1 (.int .i64 A) hle).drew
    have hX := HX.out
    rw [HC.out] at hX
    exact retP rfl rfl q1 q2 ⟨_, [], by rw [hX], hide_ (by rw [hX]; exact ⟨Src.nil _ _, Nat.zero_le _⟩), hb⟩
end Go.Proofs.YtafljgjkcnbhbaaDoor

/- first. -/
namespace Go.Proofs.YtafljgjkcnbhbaaDoor
open Go.RowKit
set_option linter.unusedVariables false

theorem ex1 : prsT ⟨#[116, 121, 112, 101, 32, 111, 61, 117, 110, 105, 111, 110, 123, 51, 58, 98, 111, 111, 108, 44, 48, 58, 111, 112, 116, 105, 111, 110, 60, 118, 97, 114, 105, 110, 116, 62, 125, 59]⟩ = ([⟨⟨#[111]⟩, 5, [⟨7, 0, ⟨#[]⟩, ⟨#[]⟩, 0, 2, 7⟩, ⟨2, 0, ⟨#[]⟩, ⟨#[]⟩, 3, 0, 13⟩, ⟨6, 0, ⟨#[]⟩, ⟨#[]⟩, 0, 1, 20⟩, ⟨3, 0, ⟨#[]⟩, ⟨#[]⟩, 0, 0, 29⟩]⟩], 0, 0) := by rfl
theorem ex2 : prsT ⟨#[116, 121, 112, 101, 32, 97, 32, 61, 32, 115, 116, 114, 117, 99, 116, 32, 123, 125, 59]⟩ = ([], 60, 17) := by rfl
/-! ### What lies in a source -/
theorem cellsN_at : ∀ (N : List Nd) (i j : Nat) (x : Nd), N[i]? = some x → j < 7 → (cellsN N)[i * 7 + j]? = (ndc x)[j]?
  | [], i, j, x, h, _ => by simp at h
  | y :: N, 0, j, x, h, hj => by
    simp at h
    subst h
    have e : cellsN (y :: N) = ndc y ++ cellsN N := by simp [cellsN]
    rw [e, List.getElem?_append_left (by rw [ndc_len]; omega)]
    simp
  | y :: N, i + 1, j, x, h, hj => by
    have ih := cellsN_at N i j x (by simpa using h) hj
    have e : cellsN (y :: N) = ndc y ++ cellsN N := by simp [cellsN]
    rw [e, List.getElem?_append_right (by rw [ndc_len]; omega)]
    rw [show (i + 1) * 7 + j - (ndc y).length = i * 7 + j by rw [ndc_len]; omega, ih]
theorem cellsD_at : ∀ (D : List Df) (vs : List Value) (i j : Nat) (d : Df) (v : Value), D[i]? = some d → vs[i]? = some v → j < 3 → (cellsD D vs)[i * 3 + j]? = (dfc d v)[j]?
  | [], _, i, j, d, v, h, _, _ => by simp at h
  | _ :: _, [], i, j, d, v, _, h, _ => by simp at h
  | y :: D, u :: vs, 0, j, d, v, h, hv, hj => by
    simp at h hv
    subst h hv
    rw [cellsD, List.getElem?_append_left (by simp [dfc]; omega)]
    simp
  | y :: D, u :: vs, i + 1, j, d, v, h, hv, hj => by
    have ih := cellsD_at D vs i j d v (by simpa using h) (by simpa using hv) hj
    rw [cellsD, List.getElem?_append_right (by simp [dfc]; omega)]
    rw [show (i + 1) * 3 + j - (dfc y u).length = i * 3 + j by simp [dfc]; omega, ih]
/-- A row of nodes lies here. -/
def NRow (w : World) (a : Option Addr) (N : List Nd) : Prop :=
  N = [] ∨ ∃ b off, a = some ⟨b, off, none⟩ ∧ b < w.heap.size ∧ ∀ (i : Nat) (x : Nd), N[i]? = some x → ∀ j, j < 7 → w.cell? ⟨b, off + i * 7 + j, none⟩ = (ndc x)[j]?
/-- A row of definitions lies here, with their nodes. -/
def DRow (w : World) (a : Option Addr) (D : List Df) : Prop :=
  D = [] ∨ ∃ b off, a = some ⟨b, off, none⟩ ∧ b < w.heap.size ∧ ∀ (i : Nat) (d : Df), D[i]? = some d → ∃ va vc, (∀ j, j < 3 → w.cell? ⟨b, off + i * 3 + j, none⟩ = (dfc d (.slice va d.ty.length vc))[j]?) ∧ d.ty.length ≤ vc ∧ (va = none → vc = 0) ∧ NRow w va d.ty
theorem NRow.later {w w' : World} {a : Option Addr} {N : List Nd} (h : NRow w a N) (hB : Below w.heap.size w w') : NRow w' a N := by
  rcases h with h | ⟨b, off, rfl, hb, hc⟩
  · exact .inl h
  · exact .inr ⟨b, off, rfl, Nat.lt_of_lt_of_le hb hB.size, fun i x hx j hj => (hB.cell (p := ⟨b, off + i * 7 + j, none⟩) hb).trans (hc i x hx j hj)⟩
theorem DRow.later {w w' : World} {a : Option Addr} {D : List Df} (h : DRow w a D) (hB : Below w.heap.size w w') : DRow w' a D := by
  rcases h with h | ⟨b, off, rfl, hb, hc⟩
  · exact .inl h
  · refine .inr ⟨b, off, rfl, Nat.lt_of_lt_of_le hb hB.size, fun i d hd => ?_⟩
    obtain ⟨va, vc, h1, h2, h4, h3⟩ := hc i d hd
    exact ⟨va, vc, fun j hj => (hB.cell (p := ⟨b, off + i * 3 + j, none⟩) hb).trans (h1 j hj), h2, h4, h3.later hB⟩
theorem NRow.open {w : World} {a : Option Addr} {N : List Nd} (h : NRow w a N) (hl : 0 < N.length) : ∃ b off, a = some ⟨b, off, none⟩ ∧ b < w.heap.size ∧ ∀ (i : Nat) (x : Nd), N[i]? = some x → ∀ j, j < 7 → w.cell? ⟨b, off + i * 7 + j, none⟩ = (ndc x)[j]? := by
  rcases h with rfl | h
  · simp at hl
  · exact h
theorem DRow.open {w : World} {a : Option Addr} {D : List Df} (h : DRow w a D) (hl : 0 < D.length) : ∃ b off, a = some ⟨b, off, none⟩ ∧ b < w.heap.size ∧ ∀ (i : Nat) (d : Df), D[i]? = some d → ∃ va vc, (∀ j, j < 3 → w.cell? ⟨b, off + i * 3 + j, none⟩ = (dfc d (.slice va d.ty.length vc))[j]?) ∧ d.ty.length ≤ vc ∧ (va = none → vc = 0) ∧ NRow w va d.ty := by
  rcases h with rfl | h
  · simp at hl
  · exact h
theorem own_nrow {w : World} {B : Nat} {v : Value} {N : List Nd} (h : w.ownsRow B 38 7 v N.length (cellsN N)) : ∃ a cap, v = .slice a N.length cap ∧ N.length ≤ cap ∧ (a = none → cap = 0) ∧ NRow w a N := by
  rcases Nat.eq_zero_or_pos N.length with h0 | h0
  · have hN : N = [] := List.eq_nil_of_length_eq_zero h0
    subst hN
    rcases h.2 with ⟨rfl, _⟩ | ⟨g, cap, cur, rfl, hb, hg, hnc, _⟩
    · exact ⟨none, 0, rfl, Nat.le_refl _, fun _ => rfl, .inl rfl⟩
    · exact ⟨_, cap, rfl, by simp, fun h => (by cases h), .inr ⟨g, 0, rfl, (Array.getElem?_eq_some_iff.1 hg).1, fun i x hx => by simp at hx⟩⟩
  · obtain ⟨g, cap, ys, rfl, hb, hn, hm, hl, ht, hK⟩ := ownS_blk h h0
    refine ⟨_, cap, rfl, hn, fun h => (by cases h), .inr ⟨g, 0, rfl, hK.lt, fun i x hx j hj => ?_⟩⟩
    have hi := (List.getElem?_eq_some_iff.1 hx).1
    rw [hK.cell, ← cellsN_at N i j x hx hj, ← ht, List.getElem?_take, if_pos (by omega), Nat.zero_add]
theorem Src.row {w : World} {B : Nat} {vd : Value} {D : List Df} {vs : List Value} (h : Src w B vd D vs) : ∃ a cap, vd = .slice a D.length cap ∧ D.length ≤ cap ∧ DRow w a D := by
  rcases Nat.eq_zero_or_pos D.length with h0 | h0
  · have hN : D = [] := List.eq_nil_of_length_eq_zero h0
    subst hN
    rcases h.2.1.2 with ⟨rfl, _⟩ | ⟨g, cap, cur, rfl, hb, hg, hnc, _⟩
    · exact ⟨none, 0, rfl, Nat.le_refl _, .inl rfl⟩
    · exact ⟨_, cap, rfl, by simp, .inr ⟨g, 0, rfl, (Array.getElem?_eq_some_iff.1 hg).1, fun i x hx => by simp at hx⟩⟩
  · obtain ⟨g, cap, ys, rfl, hb, hn, hm, hl, ht, hK⟩ := ownS_blk h.2.1 h0
    refine ⟨_, cap, rfl, hn, .inr ⟨g, 0, rfl, hK.lt, fun i d hd => ?_⟩⟩
    have hi := (List.getElem?_eq_some_iff.1 hd).1
    have hv : vs[i]? = some (vs[i]'(by rw [h.1]; exact hi)) := List.getElem?_eq_getElem _
    obtain ⟨va, vc, hva, hvc, hvn, hr⟩ := own_nrow (h.2.2.1 i d _ hd hv)
    refine ⟨va, vc, fun j hj => ?_, hvc, hvn, hr⟩
    rw [hva] at hv
    rw [hK.cell, ← cellsD_at D vs i j d _ hd hv hj, ← ht, List.getElem?_take, if_pos (by omega), Nat.zero_add]
set_option maxRecDepth 100000 in
set_option maxHeartbeats 4000000 in
theorem check_u8 (gd : Nat) (va : Value) (w : World) (hK : Hid (Blk w gd 41 [.string ⟨#[117, 56]⟩, .int .i64 0, va])) (hsl : ∃ a n c, va = .slice a n c) :
    Calls Tryd.prog 13 #[.agg #[.slice (some ⟨gd, 0, none⟩) 1 1]] w fun e w' => e = .returned (.tuple #[.int .i64 0, .int .i64 0, .int .i64 62]) ∧ Below w.heap.size w w' := by
  have HK1 := hide_ (hK.out.alloc (.cells #[.slice (some ⟨gd, 0, none⟩) 1 1] 24))
  have nm : isName ⟨#[117, 56]⟩ = false := by decide
  go_enter Tryd.func13, Tryd.ntmps13
  go_wp2_with fail
  go_loopw [16] (fun i wr => i = .int .i64 0 ∧ w.alloc (.cells #[.slice (some ⟨gd, 0, none⟩) 1 1] 24) = wr) (fun _ _ => 0)
  case atStart => exact ⟨rfl, rfl⟩
  case round =>
    obtain ⟨rfl, rfl⟩ := hrel
    obtain ⟨wq, hwq⟩ : ∃ wq, wq = w.alloc (.cells #[.slice (some ⟨gd, 0, none⟩) 1 1] 24) := ⟨_, rfl⟩
    have HB : Hid (Below w.heap.size w wq) := by rw [hwq]; exact (Below.refl _ _).alloc (Nat.le_refl _) _
    rw [← hwq] at HK1 ⊢
    clear hwq
    have c0 := HK1.out.cell 0; have c1 := HK1.out.cell 1; have c2 := HK1.out.cell 2
    simp at c0 c1 c2
    have hva : ∃ a n c, va = .slice a n c := hsl
    obtain ⟨a, n, c, rfl⟩ := hva
    go_wp2_with (go_at_call 23; refine (name_any _ _).mono ?_; rintro e w' ⟨rfl, rfl⟩; rw [nm])
    go_ret3
    exact ⟨rfl, (HB.out.alloc HB.out.size _)⟩
end Go.Proofs.YtafljgjkcnbhbaaDoor

/- first. -/
namespace Go.Proofs.YtafljgjkcnbhbaaDoor
open Go.RowKit
set_option linter.unusedVariables false

/-- Parse's answer, by its parts. -/
theorem parse_is {s : ByteArray} {D : List Df} {E A : Nat} (h : prsT s = (D, E, A)) (w : World) : Calls Tryd.prog 12 #[.string s] w fun e w' => ∃ a cap vs, e = .returned (.tuple #[.agg #[.slice a D.length cap], .agg #[.int .i64 (E : Int), .int .i64 (A : Int)]]) ∧ D.length ≤ cap ∧ Hid (Src w' w.heap.size (.slice a D.length cap) D vs) ∧ Hid (DRow w' a D ∧ D.length ≤ 256) ∧ Hid (Below w.heap.size w w') := by
  refine (parse_any s w).mono ?_
  rintro e w' ⟨vd, vs, rfl, HS, HB⟩
  rw [h] at HS ⊢
  obtain ⟨a, cap, rfl, hc, hr⟩ := HS.out.1.row
  exact ⟨a, cap, vs, rfl, hc, HS.out.1, ⟨hr, HS.out.2⟩, HB⟩
end Go.Proofs.YtafljgjkcnbhbaaDoor

/- Same. -/
namespace Go.Proofs.YtafljgjkcnbhbaaDoor
open Go.RowKit
set_option linter.unusedVariables false

def Lens (D : List Df) : Prop := D.length ≤ 9223372036854775807 ∧ ∀ d ∈ D, d.ty.length ≤ 9223372036854775807
theorem own_len {w : World} {B n c : Nat} {e : TypeId} {v : Value} {xs : List Value} (h : w.ownsRow B e c v n xs) : n ≤ 9223372036854775807 := by
  rcases h.2 with ⟨_, h0⟩ | ⟨g, cap, cur, _, _, _, hn, hm, _⟩
  · omega
  · unfold maxLen at hm; omega
theorem Src.lens {w : World} {B : Nat} {vd : Value} {D : List Df} {vs : List Value} (h : Src w B vd D vs) : Lens D := by
  refine ⟨own_len h.2.1, fun d hd => ?_⟩
  obtain ⟨i, hi, rfl⟩ := List.getElem_of_mem hd
  exact own_len (h.2.2.1 i _ _ (List.getElem?_eq_getElem hi) (List.getElem?_eq_getElem (by rw [h.1]; exact hi)))
end Go.Proofs.YtafljgjkcnbhbaaDoor

/- Check: a node by itself. -/
namespace Go.Proofs.YtafljgjkcnbhbaaDoor
open Go.RowKit
set_option linter.unusedVariables false

def numB (n : Int) : Bool := decide (0 ≤ n ∧ n ≤ 2147483647)
theorem isnum_any (n : Int) (w : World) : Calls Tryd.prog 60 #[.int .i64 n] w fun e w' => e = .returned (.bool (numB n)) ∧ w = w' := by
  by_cases h0 : 0 ≤ n
  · by_cases h1 : n ≤ 2147483647
    · have HN : Hid (numB n = true) := decide_eq_true ⟨h0, h1⟩
      go_enter Tryd.func60, Tryd.ntmps60
      go_wp2
      go_ret
      exact ⟨by rw [HN.out]; rfl, rfl⟩
    · have HN : Hid (numB n = false) := decide_eq_false (fun h => h1 h.2)
      go_enter Tryd.func60, Tryd.ntmps60
      go_wp2
      go_ret
      exact ⟨by rw [HN.out]; rfl, rfl⟩
  · have HN : Hid (numB n = false) := decide_eq_false (fun h => h0 h.1)
    go_enter Tryd.func60, Tryd.ntmps60
    go_wp2
    go_ret
    exact ⟨by rw [HN.out]; rfl, rfl⟩
def nameOk (s : ByteArray) (b : Bool) : Bool := bif b then isName s else decide (s.size = 0)
theorem rname_any (s : ByteArray) (b : Bool) (w : World) : Calls Tryd.prog 59 #[.string s, .bool b] w fun e w' => e = .returned (.bool (nameOk s b)) ∧ w = w' := by
  cases b with
  | true =>
    have HN : Hid (nameOk s true = isName s) := rfl
    go_enter Tryd.func59, Tryd.ntmps59
    go_wp2_with (go_at_call 23; refine (name_any _ _).mono ?_; rintro e w' ⟨rfl, rfl⟩)
    go_ret
    exact ⟨by rw [HN.out]; rfl, rfl⟩
  | false =>
    by_cases h0 : s.size = 0
    · have HN : Hid (nameOk s false = true) := decide_eq_true h0
      have hs : s = ⟨#[]⟩ := by
        apply ByteArray.ext
        exact Array.eq_empty_of_size_eq_zero h0
      clear h0
      subst hs
      go_enter Tryd.func59, Tryd.ntmps59
      go_wp2
      go_ret
      exact ⟨by rw [HN.out]; rfl, rfl⟩
    · have HN : Hid (nameOk s false = false) := decide_eq_false h0
      obtain ⟨n0, n1⟩ := name_ne (s := s) (by omega)
      go_enter Tryd.func59, Tryd.ntmps59
      go_wp2
      go_ret
      exact ⟨by rw [HN.out]; rfl, rfl⟩
def kindOk (k n kids : Int) : Bool :=
  if k = 1 then decide ((n = 1 ∨ n = 2 ∨ n = 4 ∨ n = 8) ∧ kids = 0)
  else if k = 2 ∨ k = 3 ∨ k = 9 then decide (n = 0 ∧ kids = 0)
  else if k = 4 ∨ k = 5 then numB n && decide (kids = 1)
  else if k = 6 then decide (n = 0 ∧ kids = 1)
  else if k = 7 ∨ k = 8 then decide (n = 0 ∧ 0 < kids)
  else false

set_option maxRecDepth 100000 in
set_option maxHeartbeats 4000000 in
theorem rkind_any (k n : Int) (nm lb : ByteArray) (tg kd at_ : Int) (w : World) : Calls Tryd.prog 58 #[.agg #[.int .i64 k, .int .i64 n, .string nm, .string lb, .int .i64 tg, .int .i64 kd, .int .i64 at_]] w fun e w' => e = .returned (.bool (kindOk k n kd)) ∧ Below w.heap.size w w' := by
  have HB : ∀ o, Below w.heap.size w (w.alloc o) := fun o => (Below.refl _ _).alloc (Nat.le_refl _) _
  obtain ⟨K, hK⟩ : ∃ K, kindOk k n kd = K := ⟨_, rfl⟩
  have HK := hide_ hK
  rw [hK]
  clear hK
  by_cases h1 : k = 1
  · subst h1
    have HK' : Hid (K = decide ((n = 1 ∨ n = 2 ∨ n = 4 ∨ n = 8) ∧ kd = 0)) := HK.out.symm
    by_cases k0 : kd = 0 <;> by_cases n1 : n = 1 <;> by_cases n2 : n = 2 <;> by_cases n4 : n = 4 <;> by_cases n8 : n = 8 <;> first | omega | (
      go_enter Tryd.func58, Tryd.ntmps58
      go_wp2
      go_ret
      exact ⟨by rw [HK'.out]; first | (simp [*]; done) | (simp [*]; rfl), HB _⟩)
  by_cases h2 : k = 2 ∨ k = 3 ∨ k = 9
  · have HK' : Hid (K = decide (n = 0 ∧ kd = 0)) := hide_ (by rw [← HK.out]; unfold kindOk; rw [if_neg h1, if_pos h2])
    rcases h2 with rfl | rfl | rfl <;> by_cases k0 : kd = 0 <;> by_cases n1 : n = 0 <;> (
      go_enter Tryd.func58, Tryd.ntmps58
      go_wp2
      go_ret
      exact ⟨by rw [HK'.out]; first | (simp [*]; done) | (simp [*]; rfl), HB _⟩)
  by_cases h3 : k = 4 ∨ k = 5
  · have HK' : Hid (K = (numB n && decide (kd = 1))) := hide_ (by rw [← HK.out]; unfold kindOk; rw [if_neg h1, if_neg h2, if_pos h3])
    obtain ⟨b, hb⟩ : ∃ b, numB n = b := ⟨_, rfl⟩
    rcases h3 with rfl | rfl <;> by_cases k0 : kd = 1 <;> cases b <;> (
      go_enter Tryd.func58, Tryd.ntmps58
      go_wp2_with (go_at_call 60; refine (isnum_any _ _).mono ?_; rintro e w' ⟨rfl, rfl⟩; rw [hb])
      go_ret
      exact ⟨by rw [HK'.out]; first | (simp [*]; done) | (simp [*]; rfl), HB _⟩)
  by_cases h4 : k = 6
  · have HK' : Hid (K = decide (n = 0 ∧ kd = 1)) := hide_ (by rw [← HK.out]; unfold kindOk; rw [if_neg h1, if_neg h2, if_neg h3, if_pos h4])
    subst h4
    by_cases k0 : kd = 1 <;> by_cases n1 : n = 0 <;> (
      go_enter Tryd.func58, Tryd.ntmps58
      go_wp2
      go_ret
      exact ⟨by rw [HK'.out]; first | (simp [*]; done) | (simp [*]; rfl), HB _⟩)
  by_cases h5 : k = 7 ∨ k = 8
  · have HK' : Hid (K = decide (n = 0 ∧ 0 < kd)) := hide_ (by rw [← HK.out]; unfold kindOk; rw [if_neg h1, if_neg h2, if_neg h3, if_neg h4, if_pos h5])
    rcases h5 with rfl | rfl <;> by_cases k0 : 0 < kd <;> by_cases n1 : n = 0 <;> (
      go_enter Tryd.func58, Tryd.ntmps58
      go_wp2
      go_ret
      exact ⟨by rw [HK'.out]; first | (simp [*]; done) | (simp [*]; rfl), HB _⟩)
  have HK' : Hid (K = false) := hide_ (by rw [← HK.out]; unfold kindOk; rw [if_neg h1, if_neg h2, if_neg h3, if_neg h4, if_neg h5])
  have j2 : ¬ k = 2 := fun h => h2 (.inl h)
  have j3 : ¬ k = 3 := fun h => h2 (.inr (.inl h))
  have j9 : ¬ k = 9 := fun h => h2 (.inr (.inr h))
  have j4 : ¬ k = 4 := fun h => h3 (.inl h)
  have j5 : ¬ k = 5 := fun h => h3 (.inr h)
  have j7 : ¬ k = 7 := fun h => h5 (.inl h)
  have j8 : ¬ k = 8 := fun h => h5 (.inr h)
  clear h2 h3 h5
  go_enter Tryd.func58, Tryd.ntmps58
  go_wp2
  go_ret
  exact ⟨by rw [HK'.out]; rfl, HB _⟩
end Go.Proofs.YtafljgjkcnbhbaaDoor
