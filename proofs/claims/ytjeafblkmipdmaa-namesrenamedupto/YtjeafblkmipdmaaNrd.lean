/- Names: turned: what lies in memory. -/
import Derived.Test.YtjeafblkmipdmaaNrc
import Derived.Test.YtjeafblkmipdmaaUg
import Derived.Test.YtjeafblkmipdmaaYrg
import Derived.Test.YtjeafblkmipdmaaBsn
namespace Go.Proofs.Ytjeafblkmipdmaa
open Go.RowKit
set_option linter.unusedVariables false

theorem cellsN_fr : ∀ (N : List Nd) (m j : Nat) (y y2 : Nd) (u : Value), N[m]? = some y → j < 7 → (ndc y).set j u = ndc y2 → (cellsN N).set (m * 7 + j) u = cellsN (N.set m y2)
  | [], m, j, y, y2, u, h, hj, e => by simp at h
  | z :: N, 0, j, y, y2, u, h, hj, e => by
    simp at h
    subst h
    have e1 : ∀ M (q : Nd), cellsN (q :: M) = ndc q ++ cellsN M := fun M q => by simp [cellsN]
    rw [e1, List.set_cons_zero, e1, List.set_append_left _ _ (by rw [ndc_len]; omega), Nat.zero_mul, Nat.zero_add, e]
  | z :: N, m + 1, j, y, y2, u, h, hj, e => by
    have ih := cellsN_fr N m j y y2 u (by simpa using h) hj e
    have e1 : ∀ M, cellsN (z :: M) = ndc z ++ cellsN M := fun M => by simp [cellsN]
    rw [e1, List.set_cons_succ, e1, List.set_append_right _ _ (by rw [ndc_len]; omega)]
    rw [show (m + 1) * 7 + j - (ndc z).length = m * 7 + j by rw [ndc_len]; omega, ih]
theorem cellsD_nr : ∀ (D : List Df) (vs : List Value) (i : Nat) (d : Df) (s : ByteArray), D[i]? = some d → vs.length = D.length → (cellsD D vs).set (i * 3) (.string s) = cellsD (D.set i { d with name := s }) vs
  | [], vs, i, d, s, h, hl => by simp at h
  | e :: D, [], i, d, s, h, hl => by simp at hl
  | e :: D, v :: vs, 0, d, s, h, hl => by
    simp at h
    subst h
    rfl
  | e :: D, v :: vs, i + 1, d, s, h, hl => by
    have ih := cellsD_nr D vs i d s (by simpa using h) (by simpa using hl)
    rw [List.set_cons_succ]
    have e1 : ∀ (q : Df) M, cellsD (q :: M) (v :: vs) = dfc q v ++ cellsD M vs := fun q M => by simp [cellsD]
    rw [e1, e1, List.set_append_right _ _ (by simp [dfc]; omega)]
    rw [show (i + 1) * 3 - (dfc e v).length = i * 3 by simp [dfc]; omega, ih]
section
variable {w : World} {B : Nat} {vd : Value} {D : List Df} {vs : List Value}
theorem Src.setR (h : Src w B vd D vs) {i : Nat} {d : Df} (hd : D[i]? = some d) (s : ByteArray) :
    ∃ g cap, vd = .slice (some ⟨g, 0, none⟩) D.length cap ∧ D.length ≤ cap ∧ B ≤ g ∧ w.cell? ⟨g, i * 3, none⟩ = some (.string d.name) ∧ w.frozen? ⟨g, i * 3, none⟩ = false ∧ Src (w.setCell ⟨g, i * 3, none⟩ (.string s)) B vd (D.set i { d with name := s }) vs := by
  have hi := (List.getElem?_eq_some_iff.1 hd).1
  have hv : vs[i]? = some (vs[i]'(by rw [h.1]; exact hi)) := List.getElem?_eq_getElem _
  obtain ⟨g, cap, hvd, hc, _, hb, h1, h2, h3⟩ := own_set (u := .string s) h.2.1 (i := i * 3) (by omega) (by omega)
  have hat := cellsD_at D vs i 0 d _ hd hv (by decide)
  rw [Nat.add_zero] at hat
  rw [hat] at h1
  have hU : Upd (fun k => k = g) w (w.setCell ⟨g, i * 3, none⟩ (.string s)) := (Upd.refl _ w).set _ _ (.inl rfl)
  refine ⟨g, cap, hvd, hc, hb, h1, h2, by rw [List.length_set]; exact h.1, ?_, ?_, h.2.2.2⟩
  · rw [List.length_set, ← cellsD_nr D vs i d s hd h.1]
    exact h3
  · intro j e u he hu
    have hty : ∃ d0, D[j]? = some d0 ∧ d0.ty = e.ty := by
      by_cases hij : i = j
      · subst hij
        rw [List.getElem?_set_self hi] at he
        injection he with he
        subst he
        exact ⟨d, hd, rfl⟩
      · rw [List.getElem?_set_ne hij] at he
        exact ⟨e, he, rfl⟩
    obtain ⟨d0, hd0, e0⟩ := hty
    rw [← e0]
    exact ownS_upd (h.2.2.1 j d0 u hd0 hu) hU (fun k hk e2 => by
      subst e2
      obtain ⟨ys, hz⟩ := ownS_type (h.2.2.1 j d0 u hd0 hu) hk
      have ho : vd.ownBlock = some k := by rw [hvd]; rfl
      obtain ⟨zs, hz2⟩ := ownS_type h.2.1 ho
      exact absurd (blk_type hz hz2) (by decide))
theorem Src.setFr (h : Src w B vd D vs) {i m j : Nat} {d : Df} {v u : Value} {y y2 : Nd} (hd : D[i]? = some d) (hv : vs[i]? = some v) (hy : d.ty[m]? = some y) (hj : j < 7) (hu : (ndc y).set j u = ndc y2) :
    ∃ g cap, v = .slice (some ⟨g, 0, none⟩) d.ty.length cap ∧ d.ty.length ≤ cap ∧ B ≤ g ∧ (∃ x, w.cell? ⟨g, m * 7 + j, none⟩ = some x) ∧ w.frozen? ⟨g, m * 7 + j, none⟩ = false ∧ Src (w.setCell ⟨g, m * 7 + j, none⟩ u) B vd (D.set i { d with ty := d.ty.set m y2 }) vs := by
  have hi := (List.getElem?_eq_some_iff.1 hd).1
  have hm := (List.getElem?_eq_some_iff.1 hy).1
  obtain ⟨g, cap, hvv, hc, _, hb, h1, h2, h3⟩ := own_set (u := u) (h.2.2.1 i d v hd hv) (i := m * 7 + j) (by omega) (by omega)
  have hat := cellsN_at d.ty m j y hy hj
  rw [hat] at h1
  have hU : Upd (fun k => k = g) w (w.setCell ⟨g, m * 7 + j, none⟩ u) := (Upd.refl _ w).set _ _ (.inl rfl)
  have hvo : v.ownBlock = some g := by rw [hvv]; rfl
  refine ⟨g, cap, hvv, hc, hb, ⟨_, h1.trans (List.getElem?_eq_getElem (by rw [ndc_len]; exact hj))⟩, h2, by rw [List.length_set]; exact h.1, ?_, ?_, h.2.2.2⟩
  · rw [List.length_set, cellsD_ty D vs i d _ hd]
    exact ownS_upd h.2.1 hU (fun k hk e => by
      subst e
      obtain ⟨ys, hz⟩ := ownS_type (h.2.2.1 i d v hd hv) hvo
      obtain ⟨zs, hz2⟩ := ownS_type h.2.1 hk
      exact absurd (blk_type hz hz2) (by decide))
  · intro q e x he hx
    by_cases hij : i = q
    · subst hij
      rw [List.getElem?_set_self hi] at he
      injection he with he
      subst he
      rw [hv] at hx
      injection hx with hx
      subst hx
      show (w.setCell _ _).ownsRow B _ 7 v (d.ty.set m _).length (cellsN (d.ty.set m _))
      rw [List.length_set, ← cellsN_fr d.ty m j y y2 u hy hj hu]
      exact h3
    · rw [List.getElem?_set_ne hij] at he
      exact ownS_upd (h.2.2.1 q e x he hx) hU (fun k hk e2 => by
        subst e2
        exact hij (h.2.2.2 i q v x k hv hx hvo hk))
end
/-- The source that is turned, and the lists of names. -/
structure TnS (B : Nat) (wr : World) (bo b1 b2 br : Nat) (vd v1 v2 : Value) (D : List Df) (vs : List Value) (L M : List ByteArray) : Prop where
  src : Src wr B vd D vs
  bx : Blk wr bo 24 [vd]
  l1 : LsM wr b1 B v1 L
  l2 : LsM wr b2 B v2 M
  ne : b1 ≠ b2
  nv : ∀ k, v1.ownBlock = some k → v2.ownBlock ≠ some k
  rt : Blk wr br 24 [.slice none 0 0]
  hb : B ≤ bo ∧ B ≤ b1 ∧ B ≤ b2 ∧ B ≤ br
section
variable {B : Nat} {wr w' : World} {bo b1 b2 br : Nat} {vd v1 v2 : Value} {D : List Df} {vs : List Value} {L M : List ByteArray}
theorem TnS.later (h : TnS B wr bo b1 b2 br vd v1 v2 D vs L M) (hB : Below wr.heap.size wr w') : TnS B w' bo b1 b2 br vd v1 v2 D vs L M :=
  ⟨h.src.later hB, h.bx.later hB, h.l1.later hB, h.l2.later hB, h.ne, h.nv, h.rt.later hB, h.hb⟩
/-- The source alone is changed, in a block of its own. -/
theorem TnS.write (h : TnS B wr bo b1 b2 br vd v1 v2 D vs L M) {g : Nat} {t : TypeId} {ys : List Value} (hu : Upd (fun k => k = g) wr w') (hg : Blk wr g t ys) (ht : t = 41 ∨ t = 38) {D2 : List Df} (hs : Src w' B vd D2 vs) : TnS B w' bo b1 b2 br vd v1 v2 D2 vs L M := by
  have key : ∀ {k : Nat} {t2 : TypeId} {zs : List Value}, Blk wr k t2 zs → t2 ≠ 41 → t2 ≠ 38 → ¬ k = g := fun hk h1 h2 e => by
    subst e
    have := blk_type hk hg
    rcases ht with ht | ht
    · exact h1 (this.trans ht)
    · exact h2 (this.trans ht)
  refine ⟨hs, h.bx.upd hu (key h.bx (by decide) (by decide)), ⟨h.l1.1.upd hu (key h.l1.1 (by decide) (by decide)), ownS_upd h.l1.2 hu (fun k hk => ?_)⟩, ⟨h.l2.1.upd hu (key h.l2.1 (by decide) (by decide)), ownS_upd h.l2.2 hu (fun k hk => ?_)⟩, h.ne, h.nv, h.rt.upd hu (key h.rt (by decide) (by decide)), h.hb⟩
  · obtain ⟨zs, hz⟩ := ownS_type h.l1.2 hk
    exact key hz (by decide) (by decide)
  · obtain ⟨zs, hz⟩ := ownS_type h.l2.2 hk
    exact key hz (by decide) (by decide)
theorem TnS.at1 (h : TnS B wr bo b1 b2 br vd v1 v2 D vs L M) {s : ByteArray} {e : Ending} (hA : AtTo wr b1 B v1 L s e w') : e = .returned (.int .i64 ((ixN (addN L s) s : Nat) : Int)) ∧ ∃ v, TnS B w' bo b1 b2 br vd v v2 D vs (addN L s) M ∧ Upd (fun k => B ≤ k) wr w' := by
  obtain ⟨he, v, m1, u1, c1⟩ := hA
  have key : ∀ {k : Nat} {t2 : TypeId} {zs : List Value}, Blk wr k t2 zs → t2 ≠ 52 → t2 ≠ 9 → ¬ (k = b1 ∨ v1.ownBlock = some k) := fun hk h1 h2 e => by
    rcases e with e | e
    · subst e; exact h1 (blk_type hk h.l1.1)
    · obtain ⟨zs, hz⟩ := ownS_type h.l1.2 e
      exact h2 (blk_type hk hz)
  refine ⟨he, v, ⟨h.src.upd u1 (fun k hk => ?_) (fun i x k hx hk => ?_), h.bx.upd u1 (key h.bx (by decide) (by decide)), m1, ⟨h.l2.1.upd u1 ?_, ownS_upd h.l2.2 u1 (fun k hk e => ?_)⟩, h.ne, fun k hk e => ?_, h.rt.upd u1 (key h.rt (by decide) (by decide)), h.hb⟩, u1.mono (fun k _ hk => ?_)⟩
  · obtain ⟨zs, hz⟩ := ownS_type h.src.2.1 hk
    exact key hz (by decide) (by decide)
  · obtain ⟨d, hd⟩ := h.src.d hx
    obtain ⟨zs, hz⟩ := ownS_type (h.src.2.2.1 i d x hd hx) hk
    exact key hz (by decide) (by decide)
  · intro e
    rcases e with e | e
    · exact h.ne e.symm
    · obtain ⟨zs, hz⟩ := ownS_type h.l1.2 e
      exact absurd (blk_type h.l2.1 hz) (by decide)
  · rcases e with e | e
    · obtain ⟨zs, hz⟩ := ownS_type h.l2.2 hk
      subst e
      exact absurd (blk_type h.l1.1 hz) (by decide)
    · exact h.nv k e hk
  · rcases c1 k hk with c | c
    · exact h.nv k c e
    · have := own_lt h.l2.2 e
      omega
  · rcases hk with hk | hk
    · have := h.hb; omega
    · exact (h.l1.2.lt k hk).1
theorem TnS.at2 (h : TnS B wr bo b1 b2 br vd v1 v2 D vs L M) {s : ByteArray} {e : Ending} (hA : AtTo wr b2 B v2 M s e w') : e = .returned (.int .i64 ((ixN (addN M s) s : Nat) : Int)) ∧ ∃ v, TnS B w' bo b1 b2 br vd v1 v D vs L (addN M s) ∧ Upd (fun k => B ≤ k) wr w' := by
  have h2 : TnS B wr bo b2 b1 br vd v2 v1 D vs M L := ⟨h.src, h.bx, h.l2, h.l1, fun e => h.ne e.symm, fun k hk e => h.nv k e hk, h.rt, ⟨h.hb.1, h.hb.2.2.1, h.hb.2.1, h.hb.2.2.2⟩⟩
  obtain ⟨he, v, h3, u⟩ := h2.at1 hA
  exact ⟨he, v, ⟨h3.src, h3.bx, h3.l2, h3.l1, fun e => h3.ne e.symm, fun k hk e => h3.nv k e hk, h3.rt, h.hb⟩, u⟩
end
/-! ### How far it has come -/
/-- Definition i under way, with these nodes. -/
def midD (D : List Df) (L M : List ByteArray) (i : Nat) (d : Df) (N : List Nd) : List Df := (D.take i).map (tnD L M) ++ ⟨zqn (ixN L d.name), d.a, N⟩ :: D.drop (i + 1)
def preD (D : List Df) (L M : List ByteArray) (i : Nat) : List Df := (D.take i).map (tnD L M) ++ D.drop i
theorem midD_at {D : List Df} {L M : List ByteArray} {i : Nat} {d : Df} {N : List Nd} (hi : i < D.length) : (midD D L M i d N)[i]? = some ⟨zqn (ixN L d.name), d.a, N⟩ := by
  unfold midD
  rw [List.getElem?_append_right (by simp; omega)]
  simp [Nat.min_eq_left (Nat.le_of_lt hi)]
theorem midD_set {D : List Df} {L M : List ByteArray} {i : Nat} {d : Df} {N N2 : List Nd} (hi : i < D.length) : (midD D L M i d N).set i ⟨zqn (ixN L d.name), d.a, N2⟩ = midD D L M i d N2 := by
  unfold midD
  rw [List.set_append_right _ _ (by simp; omega)]
  simp [Nat.min_eq_left (Nat.le_of_lt hi)]
theorem midD_len {D : List Df} {L M : List ByteArray} {i : Nat} {d : Df} {N : List Nd} (hi : i < D.length) : (midD D L M i d N).length = D.length := by
  unfold midD
  simp
  omega
theorem preD_len {D : List Df} {L M : List ByteArray} {i : Nat} (hi : i ≤ D.length) : (preD D L M i).length = D.length := by
  unfold preD
  simp
  omega
theorem preD_at {D : List Df} {L M : List ByteArray} {i : Nat} {d : Df} (hd : D[i]? = some d) : (preD D L M i)[i]? = some d := by
  have hi := (List.getElem?_eq_some_iff.1 hd).1
  unfold preD
  rw [List.getElem?_append_right (by simp; omega)]
  simp [Nat.min_eq_left (Nat.le_of_lt hi), hd]
theorem preD_set {D : List Df} {L M : List ByteArray} {i : Nat} {d : Df} (hd : D[i]? = some d) : (preD D L M i).set i { d with name := zqn (ixN L d.name) } = midD D L M i d d.ty := by
  have hi := (List.getElem?_eq_some_iff.1 hd).1
  unfold preD midD
  rw [List.set_append_right _ _ (by simp; omega)]
  have e : D.drop i = d :: D.drop (i + 1) := by
    rw [List.drop_eq_getElem_cons hi]
    congr 1
    exact (List.getElem?_eq_some_iff.1 hd).2
  rw [e]
  simp [Nat.min_eq_left (Nat.le_of_lt hi)]
theorem midD_done {D : List Df} {L M : List ByteArray} {i : Nat} {d : Df} (hd : D[i]? = some d) : midD D L M i d (d.ty.map (tnX L M)) = preD D L M (i + 1) := by
  unfold midD preD
  rw [List.take_add_one, hd]
  simp [tnD]
theorem preD_zero (D : List Df) (L M : List ByteArray) : preD D L M 0 = D := by simp [preD]
theorem preD_all (D : List Df) (L M : List ByteArray) : preD D L M D.length = D.map (tnD L M) := by simp [preD]
/-- Nodes, j of them turned, the next one being y. -/
def midN (N : List Nd) (L M : List ByteArray) (j : Nat) (y : Nd) : List Nd := (N.take j).map (tnX L M) ++ y :: N.drop (j + 1)
def preN (N : List Nd) (L M : List ByteArray) (j : Nat) : List Nd := (N.take j).map (tnX L M) ++ N.drop j
theorem preN_at {N : List Nd} {L M : List ByteArray} {j : Nat} {x : Nd} (hx : N[j]? = some x) : (preN N L M j)[j]? = some x := by
  have hi := (List.getElem?_eq_some_iff.1 hx).1
  unfold preN
  rw [List.getElem?_append_right (by simp; omega)]
  simp [Nat.min_eq_left (Nat.le_of_lt hi), hx]
theorem preN_mid {N : List Nd} {L M : List ByteArray} {j : Nat} {x : Nd} (hx : N[j]? = some x) : preN N L M j = midN N L M j x := by
  have hi := (List.getElem?_eq_some_iff.1 hx).1
  unfold preN midN
  congr 1
  rw [List.drop_eq_getElem_cons hi]
  congr 1
  exact (List.getElem?_eq_some_iff.1 hx).2
theorem midN_at {N : List Nd} {L M : List ByteArray} {j : Nat} {y : Nd} (hj : j < N.length) : (midN N L M j y)[j]? = some y := by
  unfold midN
  rw [List.getElem?_append_right (by simp; omega)]
  simp [Nat.min_eq_left (Nat.le_of_lt hj)]
theorem midN_set {N : List Nd} {L M : List ByteArray} {j : Nat} {y y2 : Nd} (hj : j < N.length) : (midN N L M j y).set j y2 = midN N L M j y2 := by
  unfold midN
  rw [List.set_append_right _ _ (by simp; omega)]
  simp [Nat.min_eq_left (Nat.le_of_lt hj)]
theorem midN_len {N : List Nd} {L M : List ByteArray} {j : Nat} {y : Nd} (hj : j < N.length) : (midN N L M j y).length = N.length := by
  unfold midN
  simp
  omega
theorem midN_done {N : List Nd} {L M : List ByteArray} {j : Nat} {x : Nd} (hx : N[j]? = some x) : midN N L M j (tnX L M x) = preN N L M (j + 1) := by
  unfold midN preN
  rw [List.take_add_one, hx]
  simp
theorem preN_zero (N : List Nd) (L M : List ByteArray) : preN N L M 0 = N := by simp [preN]
theorem preN_all (N : List Nd) (L M : List ByteArray) : preN N L M N.length = N.map (tnX L M) := by simp [preN]
theorem preN_len {N : List Nd} {L M : List ByteArray} {j : Nat} (hj : j ≤ N.length) : (preN N L M j).length = N.length := by
  unfold preN
  simp
  omega
/-- What stands in the lists. -/
structure InL (D : List Df) (L M : List ByteArray) (i : Nat) : Prop where
  df : ∀ d ∈ D.take i, InD L M d
  ll : L.length ≤ sumN (D.take i)
  lm : M.length ≤ sumN (D.take i)
structure InM (D : List Df) (L M : List ByteArray) (i : Nat) (d : Df) (j : Nat) : Prop where
  df : ∀ d ∈ D.take i, InD L M d
  nm : d.name ∈ L
  nd : ∀ x ∈ d.ty.take j, InX L M x
  ll : L.length ≤ sumN (D.take i) + 1 + j
  lm : M.length ≤ sumN (D.take i) + j
theorem sumN_take {D : List Df} {i : Nat} {d : Df} (hd : D[i]? = some d) : sumN (D.take (i + 1)) = sumN (D.take i) + (d.ty.length + 1) := by
  rw [List.take_add_one, hd]
  have key : ∀ A : List Df, sumN (A ++ [d]) = sumN A + (d.ty.length + 1) := fun A => by
    induction A with
    | nil => simp [sumN]
    | cons a A ih => simp only [List.cons_append, sumN, ih]; omega
  exact key _
theorem sumN_le {D : List Df} : ∀ (i : Nat), sumN (D.take i) ≤ sumN D := fun i => by
  induction D generalizing i with
  | nil => simp [sumN]
  | cons a A ih =>
    cases i with
    | zero => simp [sumN]
    | succ i => rw [List.take_succ_cons]; simp only [sumN]; have := ih i; omega
/-- New names change nothing that is turned already. -/
theorem preD_app {D : List Df} {L M X Y : List ByteArray} {i : Nat} (h : ∀ d ∈ D.take i, InD L M d) : preD D (L ++ X) (M ++ Y) i = preD D L M i := by
  unfold preD
  congr 1
  exact List.map_congr_left (fun d hd => tnD_app (h d hd))
theorem midD_app {D : List Df} {L M X Y : List ByteArray} {i : Nat} {d : Df} {N : List Nd} (h : ∀ d ∈ D.take i, InD L M d) (hn : d.name ∈ L) : midD D (L ++ X) (M ++ Y) i d N = midD D L M i d N := by
  unfold midD
  rw [ix_app hn]
  congr 1
  exact List.map_congr_left (fun d hd => tnD_app (h d hd))
theorem midN_app {N : List Nd} {L M X Y : List ByteArray} {j : Nat} {y : Nd} (h : ∀ x ∈ N.take j, InX L M x) : midN N (L ++ X) (M ++ Y) j y = midN N L M j y := by
  unfold midN
  congr 1
  exact List.map_congr_left (fun x hx => tnX_app (h x hx))
end Go.Proofs.Ytjeafblkmipdmaa
