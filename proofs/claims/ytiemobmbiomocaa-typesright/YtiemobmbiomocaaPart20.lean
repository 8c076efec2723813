import Derived.Test.YtiemobmbiomocaaPart16
import Derived.Maps.AppendAt
import Derived.Laws.OwnMore

/- Lists copied; how many nodes there are, plain. -/
namespace Go.Proofs.Ytiemobmbiomocaa
open Go.RowKit
set_option linter.unusedVariables false

theorem tak_lt {qs : List Q} {m : Q → Bool} {i j : Nat} (hm : m q0 = false) (h : tak qs m i = .ok j) : i < qs.length := by
  have h1 := (tak_ok h).2
  rcases Nat.lt_or_ge i qs.length with h2 | h2
  · exact h2
  · rw [show qAt qs i = q0 by unfold qAt; simp [List.getD, h2], hm] at h1
    cases h1
section
variable {qs : List Q}
def SubLen (sub : Nd → Nat → PR (List Nd × Nat)) : Prop := ∀ x i N j, sub x i = .ok (N, j) → i + N.length ≤ j
theorem part_len {sub : Nd → Nat → PR (List Nd × Nat)} (h : SubLen sub) {x : Nd} {b : Bool} {i j : Nat} {N : List Nd} (hp : partP qs sub x b i = .ok (N, j)) : i + 1 + N.length ≤ j := by
  unfold partP at hp
  split at hp
  · obtain ⟨a, h1, h2⟩ := bnd_is hp
    have := (tak_ok (by simpa only [txt] using h1)).1
    have := h _ _ _ _ h2
    omega
  · cases hp
theorem arm_len {sub : Nd → Nat → PR (List Nd × Nat)} (h : SubLen sub) {c i j : Nat} {N : List Nd} (hp : armP qs sub c i = .ok (N, j)) : i + N.length ≤ j := by
  unfold armP at hp
  obtain ⟨a, h1, h2⟩ := bnd_is hp
  have := (tak_ok h1).1
  have := part_len h h2
  omega
theorem field_len {sub : Nd → Nat → PR (List Nd × Nat)} (h : SubLen sub) {c i j : Nat} {N : List Nd} (hp : fieldP qs sub c i = .ok (N, j)) : i + N.length ≤ j := by
  unfold fieldP at hp
  obtain ⟨a, h1, h2⟩ := bnd_is hp
  have := (tak_ok h1).1
  have := part_len h h2
  omega
theorem more_len {one : Nat → Nat → PR (List Nd × Nat)} (h : ∀ c i N j, one c i = .ok (N, j) → i + N.length ≤ j) : ∀ (f c : Nat) (N : List Nd) (i : Nat) (N' : List Nd) (c' j : Nat), moreP qs one f c N i = .ok (N', c', j) → i + N'.length ≤ j + N.length
  | 0, c, N, i, N', c', j, hp => by cases hp
  | f + 1, c, N, i, N', c', j, hp => by
    unfold moreP at hp
    split at hp
    · obtain ⟨⟨M, k⟩, h1, h2⟩ := bnd_is hp
      have h3 := h _ _ _ _ h1
      have h4 := more_len h f (c + 1) (N ++ M) k N' c' j h2
      simp at h4
      omega
    · obtain ⟨k, h1, h2⟩ := bnd_is hp
      have h3 := (tak_ok (by simpa only [txt] using h1)).1
      injection h2 with h2
      injection h2 with h4 h5
      injection h5 with h5 h6
      subst h4 h6
      omega
theorem parts_len {one : Nat → Nat → PR (List Nd × Nat)} (h : ∀ c i N j, one c i = .ok (N, j) → i + N.length ≤ j) {i : Nat} {N : List Nd} {c j : Nat} (hp : partsP qs one i = .ok (N, c, j)) : i + 1 + N.length ≤ j := by
  unfold partsP at hp
  obtain ⟨a, h1, h2⟩ := bnd_is hp
  have := (tak_ok (by simpa only [txt] using h1)).1
  obtain ⟨⟨M, k⟩, h3, h4⟩ := bnd_is h2
  have := h _ _ _ _ h3
  have := more_len h _ _ _ _ _ _ _ h4
  simp only at this
  omega
theorem node_len : ∀ f, SubLen (nodeP qs f) := by
  intro f
  induction f with
  | zero =>
    intro x i N j h
    unfold nodeP at h
    split at h <;> cases h
  | succ f ih =>
    intro x i N j h
    unfold nodeP at h
    split at h
    · cases h
    unfold bodyP at h
    split at h
    · injection h with h
      injection h with h1 h2
      subst h1 h2
      simp
    split at h
    · obtain ⟨⟨M, n, k⟩, h1, h2⟩ := bnd_is h
      injection h2 with h2
      injection h2 with h3 h4
      subst h3 h4
      unfold itemsP at h1
      obtain ⟨a1, e1, h1⟩ := bnd_is h1
      obtain ⟨⟨M2, a2⟩, e2, h1⟩ := bnd_is h1
      obtain ⟨a3, e3, h1⟩ := bnd_is h1
      obtain ⟨a4, e4, h1⟩ := bnd_is h1
      obtain ⟨a5, e5, h1⟩ := bnd_is h1
      injection h1 with h1
      injection h1 with h5 h6
      injection h6 with h6 h7
      subst h5 h7
      have := (tak_ok (by simpa only [txt] using e1)).1
      have := ih _ _ _ _ e2
      have := (tak_ok (by simpa only [txt] using e3)).1
      have := (tak_ok e4).1
      have := (tak_ok (by simpa only [txt] using e5)).1
      simp at *
      omega
    split at h
    · obtain ⟨⟨M, k⟩, h1, h2⟩ := bnd_is h
      injection h2 with h2
      injection h2 with h3 h4
      subst h3 h4
      unfold optionP at h1
      obtain ⟨a1, e1, h1⟩ := bnd_is h1
      obtain ⟨⟨M2, a2⟩, e2, h1⟩ := bnd_is h1
      obtain ⟨a3, e3, h1⟩ := bnd_is h1
      injection h1 with h1
      injection h1 with h5 h6
      subst h5 h6
      have := (tak_ok (by simpa only [txt] using e1)).1
      have := ih _ _ _ _ e2
      have := (tak_ok (by simpa only [txt] using e3)).1
      simp at *
      omega
    split at h
    · obtain ⟨⟨M, c, k⟩, h1, h2⟩ := bnd_is h
      injection h2 with h2
      injection h2 with h3 h4
      subst h3 h4
      have := parts_len (fun c i N j h => arm_len ih h) h1
      simp at *
      omega
    split at h
    · obtain ⟨⟨M, c, k⟩, h1, h2⟩ := bnd_is h
      injection h2 with h2
      injection h2 with h3 h4
      subst h3 h4
      have := parts_len (fun c i N j h => field_len ih h) h1
      simp at *
      omega
    · injection h with h
      injection h with h1 h2
      subst h1 h2
      simp
theorem def_len {i j : Nat} {d : Df} (h : defP qs i = .ok (d, j)) : d.ty.length ≤ qs.length := by
  unfold defP at h
  obtain ⟨a1, e1, h⟩ := bnd_is h
  obtain ⟨a2, e2, h⟩ := bnd_is h
  obtain ⟨⟨N, a3⟩, e3, h⟩ := bnd_is h
  obtain ⟨a4, e4, h⟩ := bnd_is h
  injection h with h
  injection h with h1 h2
  subst h1
  have h5 := node_len 17 _ _ _ _ e3
  have h6 := tak_lt (m := isT ⟨#[59]⟩) (by decide) (by simpa only [txt] using e4)
  simp only at h6 ⊢
  omega
theorem src_len : ∀ (f : Nat) (D : List Df) (i : Nat) (D' : List Df), srcP qs f D i = .ok D' → (∀ d ∈ D, d.ty.length ≤ qs.length) → ∀ d ∈ D', d.ty.length ≤ qs.length
  | 0, D, i, D', h, hD => by cases h
  | f + 1, D, i, D', h, hD => by
    unfold srcP at h
    split at h
    · obtain ⟨a1, e1, h⟩ := bnd_is h
      split at h
      · cases h
      obtain ⟨⟨d, j⟩, e2, h⟩ := bnd_is h
      refine src_len f _ _ D' h (fun x hx => ?_)
      rcases List.mem_append.1 hx with hx | hx
      · exact hD x hx
      · simp at hx; subst hx; exact def_len e2
    · injection h with h
      subst h
      exact hD
end
/-- Not too many of them. -/
def Small (D : List Df) : Prop := D.length ≤ 1000000 ∧ ∀ d ∈ D, d.ty.length ≤ 1000000
/-- What may be copied. -/
def Wt (D : List Df) : Prop := D.length ≤ 2932031007401 ∧ ∀ d ∈ D, d.ty.length ≤ 1954687338267
theorem Small.wt {D : List Df} (h : Small D) : Wt D := ⟨by have := h.1; omega, fun d hd => by have := h.2 d hd; omega⟩
theorem prs_small {s : ByteArray} (h : (prsT s).1.length ≤ 256) : Small (prsT s).1 := by
  refine ⟨by omega, fun d hd => ?_⟩
  by_cases hE : (cutT s).2.1 = 0
  · cases hr : srcP ((cutT s).1.map core) 257 [] 0 with
    | error e => rw [prs_err hE hr] at hd; simp at hd
    | ok D =>
      rw [prs_ok hE hr] at hd
      simp only [List.mem_map] at hd
      obtain ⟨d', hd', rfl⟩ := hd
      have h1 := src_len 257 [] 0 D hr (fun x hx => by simp at hx) d' hd'
      have h2 := cut_few s
      rw [List.length_map] at h1
      show (d'.ty.map _).length ≤ _
      rw [List.length_map]
      omega
  · rw [prs_bad hE] at hd; simp at hd
theorem cellsN_one' (N : List Nd) : ∀ u ∈ cellsN N, u.oneCell' = true := by
  intro u hu
  simp only [cellsN, List.mem_flatMap] at hu
  obtain ⟨x, _, hx⟩ := hu
  simp [ndc] at hx
  rcases hx with rfl | rfl | rfl | rfl | rfl | rfl | rfl <;> rfl
set_option maxRecDepth 100000 in
/-- append(nil, x...), x a row of nodes. -/
theorem run_copyN (w : World) (B : Nat) (a : Option Addr) (cap : Nat) (N : List Nd) (hr : NRow w a N) (hnil : a = none → cap = 0) (hl : N.length ≤ 1954687338268) (hB : B ≤ w.heap.size) :
    ∃ v' w', (Builtin.append_ #[37, 37] 37 #[.slice none 0 0, .slice a N.length cap]).run Try.prog w = .ok v' w' ∧ w'.ownsRow B 41 7 v' N.length (cellsN N) ∧ Below w.heap.size w w' ∧ (∀ k, v'.ownBlock = some k → w.heap.size ≤ k) := by
  have hinfo : (Try.prog.info? 41).map (fun i => (i.zero, i.size, i.bytes)) = some (some (.agg #[.int .i64 0, .int .i64 0, .string ⟨#[]⟩, .string ⟨#[]⟩, .int .i64 0, .int .i64 0, .int .i64 0]), 7, 72) := by kernel_rfl
  obtain ⟨i0, hi, hz0, hz1, hz2⟩ := info_parts hinfo
  rcases hr with rfl | ⟨b, off, rfl, hb, hc⟩
  · cases a with
    | none =>
      obtain rfl := hnil rfl
      exact ⟨_, w, run_append_owned_none (P := Try.prog) w w.heap.size 37 37 41 i0 7 Try.underlying37 hi (.slice none 0 0) 0 [] (World.ownsRow_nil _ _ _ _), World.ownsRow_nil _ _ _ _, Below.refl _ _, fun k hk => by cases hk⟩
    | some x =>
      obtain ⟨v', w', hrun, h2, h3, h4, h5⟩ := run_append_own_at (P := Try.prog) w w.heap.size 37 37 41 i0 _ 7 72 Try.underlying37 hi hz0 hz1 hz2 rfl (by decide) (.slice none 0 0) 0 [] (World.ownsRow_nil _ _ _ _) x 0 cap [] rfl (fun j u hj => by simp at hj) (fun u hu => by cases hu) (by unfold maxLen; omega) (by omega) (Nat.le_refl _)
      have hg := (Upd.refl (fun _ => False) w).grown h3 (fun k hk => by cases hk)
      simp only [List.append_nil, Nat.add_zero] at h2
      have h6 := own_base h2 hB
      have h7 := hg.below w.heap.size (Nat.le_refl _) (fun k hk => hk.elim)
      have h8 : ∀ k, v'.ownBlock = some k → w.heap.size ≤ k := fun k hk => (h2.lt k hk).1
      refine ⟨v', w', ?_, ?_, h7, h8⟩
      · simpa using hrun
      · simpa [cellsN] using h6
  · have hcell : ∀ j u, (cellsN N)[j]? = some u → w.cell? ((⟨b, off, none⟩ : Addr).add j) = some u := fun j u hj => by
      have hlt := (List.getElem?_eq_some_iff.1 hj).1
      rw [cellsN_len] at hlt
      have hi : j / 7 < N.length := by omega
      have hx : N[j / 7]? = some (N[j / 7]'hi) := List.getElem?_eq_getElem hi
      have h1 := hc (j / 7) _ hx (j % 7) (Nat.mod_lt _ (by decide))
      have h2 := cellsN_at N (j / 7) (j % 7) _ hx (Nat.mod_lt _ (by decide))
      have e : j / 7 * 7 + j % 7 = j := by omega
      rw [e] at h2
      rw [add_none, ← hj, h2, ← h1]
      congr 2
      omega
    obtain ⟨v', w', hrun, h2, h3, h4, h5⟩ := run_append_own_at (P := Try.prog) w w.heap.size 37 37 41 i0 _ 7 72 Try.underlying37 hi hz0 hz1 hz2 rfl (by decide) (.slice none 0 0) 0 [] (World.ownsRow_nil _ _ _ _) ⟨b, off, none⟩ N.length cap (cellsN N) (cellsN_len N) hcell (cellsN_one' N) (by unfold maxLen; omega) (by omega) (Nat.le_refl _)
    rw [Nat.zero_add, List.nil_append] at h2
    have hg := (Upd.refl (fun _ => False) w).grown h3 (fun k hk => by cases hk)
    exact ⟨v', w', hrun, own_base h2 hB, hg.below _ (Nat.le_refl _) (fun k hk => hk.elim), fun k hk => (h2.lt k hk).1⟩
end Go.Proofs.Ytiemobmbiomocaa

/- A source is written over, cell by cell. -/
namespace Go.Proofs.Ytiemobmbiomocaa
open Go.RowKit
set_option linter.unusedVariables false

theorem cellsD_ty : ∀ (D : List Df) (vs : List Value) (i : Nat) (d : Df) (N : List Nd), D[i]? = some d → cellsD (D.set i { d with ty := N }) vs = cellsD D vs
  | [], vs, i, d, N, h => by simp at h
  | x :: D, [], i, d, N, h => by cases i <;> rfl
  | x :: D, u :: vs, 0, d, N, h => by
    simp at h
    subst h
    rfl
  | x :: D, u :: vs, i + 1, d, N, h => by
    have ih := cellsD_ty D vs i d N (by simpa using h)
    show dfc x u ++ cellsD (D.set i _) vs = dfc x u ++ cellsD D vs
    rw [ih]
theorem cellsD_a : ∀ (D : List Df) (vs : List Value) (i : Nat) (d : Df) (x : Int), D[i]? = some d → vs.length = D.length → (cellsD D vs).set (i * 3 + 1) (.int .i64 x) = cellsD (D.set i { d with a := x }) vs
  | [], vs, i, d, x, h, _ => by simp at h
  | y :: D, [], i, d, x, h, hl => by simp at hl
  | y :: D, u :: vs, 0, d, x, h, hl => by
    simp at h
    subst h
    rfl
  | y :: D, u :: vs, i + 1, d, x, h, hl => by
    have ih := cellsD_a D vs i d x (by simpa using h) (by simpa using hl)
    show (dfc y u ++ cellsD D vs).set ((i + 1) * 3 + 1) _ = dfc y u ++ cellsD (D.set i _) vs
    rw [List.set_append_right _ _ (by simp [dfc]; omega)]
    rw [show (i + 1) * 3 + 1 - (dfc y u).length = i * 3 + 1 by simp [dfc]; omega, ih]
theorem cellsN_a : ∀ (N : List Nd) (m : Nat) (y : Nd) (x : Int), N[m]? = some y → (cellsN N).set (m * 7 + 6) (.int .i64 x) = cellsN (N.set m { y with a := x })
  | [], m, y, x, h => by simp at h
  | z :: N, 0, y, x, h => by
    simp at h
    subst h
    have e : cellsN (z :: N) = ndc z ++ cellsN N := by simp [cellsN]
    rw [e]
    rfl
  | z :: N, m + 1, y, x, h => by
    have ih := cellsN_a N m y x (by simpa using h)
    have e : ∀ M, cellsN (z :: M) = ndc z ++ cellsN M := fun M => by simp [cellsN]
    rw [e, List.set_cons_succ, e, List.set_append_right _ _ (by rw [ndc_len]; omega)]
    rw [show (m + 1) * 7 + 6 - (ndc z).length = m * 7 + 6 by rw [ndc_len]; omega, ih]
/-- A cell of a row of the call's own is written. -/
theorem own_set {w : World} {B e c n i : Nat} {v u : Value} {xs : List Value} (h : w.ownsRow B e c v n xs) (hi : i < n * c) (hn : 0 < n) :
    ∃ g cap, v = .slice (some ⟨g, 0, none⟩) n cap ∧ n ≤ cap ∧ cap ≤ 9223372036854775807 ∧ B ≤ g ∧ w.cell? ⟨g, i, none⟩ = xs[i]? ∧ w.frozen? ⟨g, i, none⟩ = false ∧ (w.setCell ⟨g, i, none⟩ u).ownsRow B e c v n (xs.set i u) := by
  obtain ⟨g, cap, ys, rfl, hb, hc, hm, hl, ht, hK⟩ := ownS_blk h hn
  refine ⟨g, cap, rfl, hc, by unfold maxLen at hm; exact hm, hb, ?_, hK.frozen i, ?_⟩
  · rw [hK.cell, ← ht, List.getElem?_take, if_pos hi]
  · have h2 := ownS_of_blk (B := B) (n := n) (c := c) (cap := cap) (hK.set i u) hb (by simpa using hl) hc hm
    rw [List.take_set, ht] at h2
    exact h2
theorem Src.setA {w : World} {B : Nat} {vd : Value} {D : List Df} {vs : List Value} (h : Src w B vd D vs) {i : Nat} {d : Df} (hd : D[i]? = some d) (x : Int) :
    ∃ g cap, vd = .slice (some ⟨g, 0, none⟩) D.length cap ∧ D.length ≤ cap ∧ B ≤ g ∧ w.cell? ⟨g, i * 3 + 1, none⟩ = some (.int .i64 d.a) ∧ w.frozen? ⟨g, i * 3 + 1, none⟩ = false ∧ Src (w.setCell ⟨g, i * 3 + 1, none⟩ (.int .i64 x)) B vd (D.set i { d with a := x }) vs := by
  have hi := (List.getElem?_eq_some_iff.1 hd).1
  have hv : vs[i]? = some (vs[i]'(by rw [h.1]; exact hi)) := List.getElem?_eq_getElem _
  obtain ⟨g, cap, hvd, hc, _, hb, h1, h2, h3⟩ := own_set (u := .int .i64 x) h.2.1 (i := i * 3 + 1) (by omega) (by omega)
  have hat := cellsD_at D vs i 1 d _ hd hv (by decide)
  rw [hat] at h1
  refine ⟨g, cap, hvd, hc, hb, h1, h2, by rw [List.length_set]; exact h.1, ?_, ?_, h.2.2.2⟩
  · rw [List.length_set, ← cellsD_a D vs i d x hd h.1]
    exact h3
  · intro j e u he hu
    have hU : Upd (fun k => k = g) w (w.setCell ⟨g, i * 3 + 1, none⟩ (.int .i64 x)) := (Upd.refl _ w).set _ _ (.inl rfl)
    have hvo : vd.ownBlock = some g := by rw [hvd]; rfl
    have key : ∀ (d' : Df), D[j]? = some d' → (w.setCell ⟨g, i * 3 + 1, none⟩ (.int .i64 x)).ownsRow B 41 7 u d'.ty.length (cellsN d'.ty) := fun d' hd' => ownS_upd (h.2.2.1 j d' u hd' hu) hU (fun k hk e => by
      subst e
      obtain ⟨ys, hy⟩ := ownS_type (h.2.2.1 j d' u hd' hu) hk
      obtain ⟨zs, hz⟩ := ownS_type h.2.1 hvo
      exact absurd (blk_type hy hz) (by decide))
    by_cases hij : i = j
    · subst hij
      rw [List.getElem?_set_self (by exact hi)] at he
      injection he with he
      subst he
      exact key d hd
    · rw [List.getElem?_set_ne hij] at he
      exact key e he
theorem Src.setN {w : World} {B : Nat} {vd : Value} {D : List Df} {vs : List Value} (h : Src w B vd D vs) {i m : Nat} {d : Df} {v : Value} {y : Nd} (hd : D[i]? = some d) (hv : vs[i]? = some v) (hy : d.ty[m]? = some y) (x : Int) :
    ∃ g cap, v = .slice (some ⟨g, 0, none⟩) d.ty.length cap ∧ d.ty.length ≤ cap ∧ B ≤ g ∧ w.cell? ⟨g, m * 7 + 6, none⟩ = some (.int .i64 y.a) ∧ w.frozen? ⟨g, m * 7 + 6, none⟩ = false ∧ Src (w.setCell ⟨g, m * 7 + 6, none⟩ (.int .i64 x)) B vd (D.set i { d with ty := d.ty.set m { y with a := x } }) vs := by
  have hi := (List.getElem?_eq_some_iff.1 hd).1
  have hm := (List.getElem?_eq_some_iff.1 hy).1
  obtain ⟨g, cap, hvv, hc, _, hb, h1, h2, h3⟩ := own_set (u := .int .i64 x) (h.2.2.1 i d v hd hv) (i := m * 7 + 6) (by omega) (by omega)
  have hat := cellsN_at d.ty m 6 y hy (by decide)
  rw [hat] at h1
  have hU : Upd (fun k => k = g) w (w.setCell ⟨g, m * 7 + 6, none⟩ (.int .i64 x)) := (Upd.refl _ w).set _ _ (.inl rfl)
  have hvo : v.ownBlock = some g := by rw [hvv]; rfl
  refine ⟨g, cap, hvv, hc, hb, h1, h2, by rw [List.length_set]; exact h.1, ?_, ?_, h.2.2.2⟩
  · rw [List.length_set, cellsD_ty D vs i d _ hd]
    exact ownS_upd h.2.1 hU (fun k hk e => by
      subst e
      obtain ⟨ys, hz⟩ := ownS_type (h.2.2.1 i d v hd hv) hvo
      obtain ⟨zs, hz2⟩ := ownS_type h.2.1 hk
      exact absurd (blk_type hz hz2) (by decide))
  · intro j e u he hu
    by_cases hij : i = j
    · subst hij
      rw [List.getElem?_set_self (by exact hi)] at he
      injection he with he
      subst he
      rw [hv] at hu
      injection hu with hu
      subst hu
      show (w.setCell _ _).ownsRow B _ 7 v (d.ty.set m _).length (cellsN (d.ty.set m _))
      rw [List.length_set, ← cellsN_a d.ty m y x hy]
      exact h3
    · rw [List.getElem?_set_ne hij] at he
      exact ownS_upd (h.2.2.1 j e u he hu) hU (fun k hk e2 => by
        subst e2
        exact hij (h.2.2.2 i j v u k hv hu hvo hk))
def zNd (x : Nd) : Nd := { x with a := 0 }
def zDf (d : Df) : Df := ⟨d.name, 0, d.ty.map zNd⟩
end Go.Proofs.Ytiemobmbiomocaa
