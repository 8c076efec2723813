import Derived.Test.YtafljgjkcnbhbaaDoorPart13
import Derived.Maps.AppendAt
import Derived.Laws.OwnMore
import Derived.Test.YtafljgjkcnbhbaaDoorPart14
import Derived.Deep.RegionLaw

/- Lists copied; how many nodes there are, plain. -/
namespace Go.Proofs.YtafljgjkcnbhbaaDoor
open Go.RowKit
set_option linter.unusedVariables false

theorem tak_lt {qs : List Q} {m : Q → Bool} {i j : Nat} (hm : m q0 = false) (h : tak qs m i = .ok j) : i < qs.length := by
  have h1 := (tak_ok h).2
  rcases Nat.lt_or_ge i qs.length with h2 | h2
  · exact h2
  · rw [show qAt qs i = q0 by unfold qAt; simp [List.getD, h2], hm] at h1
    cases h1
section
variable {qs : List Q}
def SubLen (sub : Nd → Nat → PR (List Nd × Nat)) : Prop := ∀ x i N j, sub x i = .ok (N, j) → i + N.length ≤ j
theorem part_len {sub : Nd → Nat → PR (List Nd × Nat)} (h : SubLen sub) {x : Nd} {b : Bool} {i j : Nat} {N : List Nd} (hp : partP qs sub x b i = .ok (N, j)) : i + 1 + N.length ≤ j := by
  unfold partP at hp
  split at hp
  · obtain ⟨a, h1, h2⟩ := bnd_is hp
    have := (tak_ok (by simpa only [txt] using h1)).1
    have := h _ _ _ _ h2
    omega
  · cases hp
theorem arm_len {sub : Nd → Nat → PR (List Nd × Nat)} (h : SubLen sub) {c i j : Nat} {N : List Nd} (hp : armP qs sub c i = .ok (N, j)) : i + N.length ≤ j := by
  unfold armP at hp
  obtain ⟨a, h1, h2⟩ := bnd_is hp
  have := (tak_ok h1).1
  have := part_len h h2
  omega
theorem field_len {sub : Nd → Nat → PR (List Nd × Nat)} (h : SubLen sub) {c i j : Nat} {N : List Nd} (hp : fieldP qs sub c i = .ok (N, j)) : i + N.length ≤ j := by
  unfold fieldP at hp
  obtain ⟨a, h1, h2⟩ := bnd_is hp
  have := (tak_ok h1).1
  have := part_len h h2
  omega
theorem more_len {one : Nat → Nat → PR (List Nd × Nat)} (h : ∀ c i N j, one c i = .ok (N, j) → i + N.length ≤ j) : ∀ (f c : Nat) (N : List Nd) (i : Nat) (N' : List Nd) (c' j : Nat), moreP qs one f c N i = .ok (N', c', j) → i + N'.length ≤ j + N.length
  | 0, c, N, i, N', c', j, hp => by cases hp
  | f + 1, c, N, i, N', c', j, hp => by
    unfold moreP at hp
    split at hp
    · obtain ⟨⟨M, k⟩, h1, h2⟩ := bnd_is hp
      have h3 := h _ _ _ _ h1
      have h4 := more_len h f (c + 1) (N ++ M) k N' c' j h2
      simp at h4
      omega
    · obtain ⟨k, h1, h2⟩ := bnd_is hp
      have h3 := (tak_ok (by simpa only [txt] using h1)).1
      injection h2 with h2
      injection h2 with h4 h5
      injection h5 with h5 h6
      subst h4 h6
      omega
theorem parts_len {one : Nat → Nat → PR (List Nd × Nat)} (h : ∀ c i N j, one c i = .ok (N, j) → i + N.length ≤ j) {i : Nat} {N : List Nd} {c j : Nat} (hp : partsP qs one i = .ok (N, c, j)) : i + 1 + N.length ≤ j := by
  unfold partsP at hp
  obtain ⟨a, h1, h2⟩ := bnd_is hp
  have := (tak_ok (by simpa only [txt] using h1)).1
  obtain ⟨⟨M, k⟩, h3, h4⟩ := bnd_is h2
  have := h _ _ _ _ h3
  have := more_len h _ _ _ _ _ _ _ h4
  simp only at this
  omega
theorem node_len : ∀ f, SubLen (nodeP qs f) := by
  intro f
  induction f with
  | zero =>
    intro x i N j h
    unfold nodeP at h
    split at h <;> cases h
  | succ f ih =>
    intro x i N j h
    unfold nodeP at h
    split at h
    · cases h
    unfold bodyP at h
    split at h
    · injection h with h
      injection h with h1 h2
      subst h1 h2
      simp
    split at h
    · obtain ⟨⟨M, n, k⟩, h1, h2⟩ := bnd_is h
      injection h2 with h2
      injection h2 with h3 h4
      subst h3 h4
      unfold itemsP at h1
      obtain ⟨a1, e1, h1⟩ := bnd_is h1
      obtain ⟨⟨M2, a2⟩, e2, h1⟩ := bnd_is h1
      obtain ⟨a3, e3, h1⟩ := bnd_is h1
      obtain ⟨a4, e4, h1⟩ := bnd_is h1
      obtain ⟨a5, e5, h1⟩ := bnd_is h1
      injection h1 with h1
      injection h1 with h5 h6
      injection h6 with h6 h7
      subst h5 h7
      have := (tak_ok (by simpa only [txt] using e1)).1
      have := ih _ _ _ _ e2
      have := (tak_ok (by simpa only [txt] using e3)).1
      have := (tak_ok e4).1
      have := (tak_ok (by simpa only [txt] using e5)).1
      simp at *
      omega
    split at h
    · obtain ⟨⟨M, k⟩, h1, h2⟩ := bnd_is h
      injection h2 with h2
      injection h2 with h3 h4
      subst h3 h4
      unfold optionP at h1
      obtain ⟨a1, e1, h1⟩ := bnd_is h1
      obtain ⟨⟨M2, a2⟩, e2, h1⟩ := bnd_is h1
      obtain ⟨a3, e3, h1⟩ := bnd_is h1
      injection h1 with h1
      injection h1 with h5 h6
      subst h5 h6
      have := (tak_ok (by simpa only [txt] using e1)).1
      have := ih _ _ _ _ e2
      have := (tak_ok (by simpa only [txt] using e3)).1
      simp at *
      omega
    split at h
    · obtain ⟨⟨M, c, k⟩, h1, h2⟩ := bnd_is h
      injection h2 with h2
      injection h2 with h3 h4
      subst h3 h4
      have := parts_len (fun c i N j h => arm_len ih h) h1
      simp at *
      omega
    split at h
    · obtain ⟨⟨M, c, k⟩, h1, h2⟩ := bnd_is h
      injection h2 with h2
      injection h2 with h3 h4
      subst h3 h4
      have := parts_len (fun c i N j h => field_len ih h) h1
      simp at *
      omega
    · injection h with h
      injection h with h1 h2
      subst h1 h2
      simp
theorem def_len {i j : Nat} {d : Df} (h : defP qs i = .ok (d, j)) : d.ty.length ≤ qs.length := by
  unfold defP at h
  obtain ⟨a1, e1, h⟩ := bnd_is h
  obtain ⟨a2, e2, h⟩ := bnd_is h
  obtain ⟨⟨N, a3⟩, e3, h⟩ := bnd_is h
  obtain ⟨a4, e4, h⟩ := bnd_is h
  injection h with h
  injection h with h1 h2
  subst h1
  have h5 := node_len 17 _ _ _ _ e3
  have h6 := tak_lt (m := isT ⟨#[59]⟩) (by decide) (by simpa only [txt] using e4)
  simp only at h6 ⊢
  omega
theorem src_len : ∀ (f : Nat) (D : List Df) (i : Nat) (D' : List Df), srcP qs f D i = .ok D' → (∀ d ∈ D, d.ty.length ≤ qs.length) → ∀ d ∈ D', d.ty.length ≤ qs.length
  | 0, D, i, D', h, hD => by cases h
  | f + 1, D, i, D', h, hD => by
    unfold srcP at h
    split at h
    · obtain ⟨a1, e1, h⟩ := bnd_is h
      split at h
      · cases h
      obtain ⟨⟨d, j⟩, e2, h⟩ := bnd_is h
      refine src_len f _ _ D' h (fun x hx => ?_)
      rcases List.mem_append.1 hx with hx | hx
      · exact hD x hx
      · simp at hx; subst hx; exact def_len e2
    · injection h with h
      subst h
      exact hD
end
/-- Not too many of them. -/
def Small (D : List Df) : Prop := D.length ≤ 1000000 ∧ ∀ d ∈ D, d.ty.length ≤ 1000000
/-- What may be copied. -/
def Wt (D : List Df) : Prop := D.length ≤ 2932031007401 ∧ ∀ d ∈ D, d.ty.length ≤ 1954687338267
theorem Small.wt {D : List Df} (h : Small D) : Wt D := ⟨by have := h.1; omega, fun d hd => by have := h.2 d hd; omega⟩
theorem prs_small {s : ByteArray} (h : (prsT s).1.length ≤ 256) : Small (prsT s).1 := by
  refine ⟨by omega, fun d hd => ?_⟩
  by_cases hE : (cutT s).2.1 = 0
  · cases hr : srcP ((cutT s).1.map core) 257 [] 0 with
    | error e => rw [prs_err hE hr] at hd; simp at hd
    | ok D =>
      rw [prs_ok hE hr] at hd
      simp only [List.mem_map] at hd
      obtain ⟨d', hd', rfl⟩ := hd
      have h1 := src_len 257 [] 0 D hr (fun x hx => by simp at hx) d' hd'
      have h2 := cut_few s
      rw [List.length_map] at h1
      show (d'.ty.map _).length ≤ _
      rw [List.length_map]
      omega
  · rw [prs_bad hE] at hd; simp at hd
theorem cellsN_one' (N : List Nd) : ∀ u ∈ cellsN N, u.oneCell' = true := by
  intro u hu
  simp only [cellsN, List.mem_flatMap] at hu
  obtain ⟨x, _, hx⟩ := hu
  simp [ndc] at hx
  rcases hx with rfl | rfl | rfl | rfl | rfl | rfl | rfl <;> rfl
set_option maxRecDepth 100000 in
/-- append(nil, x...), x a row of nodes. -/
theorem run_copyN (w : World) (B : Nat) (a : Option Addr) (cap : Nat) (N : List Nd) (hr : NRow w a N) (hnil : a = none → cap = 0) (hl : N.length ≤ 1954687338268) (hB : B ≤ w.heap.size) :
    ∃ v' w', (Builtin.append_ #[39, 39] 39 #[.slice none 0 0, .slice a N.length cap]).run Tryd.prog w = .ok v' w' ∧ w'.ownsRow B 38 7 v' N.length (cellsN N) ∧ Below w.heap.size w w' ∧ (∀ k, v'.ownBlock = some k → w.heap.size ≤ k) := by
  have hinfo : (Tryd.prog.info? 38).map (fun i => (i.zero, i.size, i.bytes)) = some (some (.agg #[.int .i64 0, .int .i64 0, .string ⟨#[]⟩, .string ⟨#[]⟩, .int .i64 0, .int .i64 0, .int .i64 0]), 7, 72) := by kernel_rfl
  obtain ⟨i0, hi, hz0, hz1, hz2⟩ := info_parts hinfo
  rcases hr with rfl | ⟨b, off, rfl, hb, hc⟩
  · cases a with
    | none =>
      obtain rfl := hnil rfl
      exact ⟨_, w, run_append_owned_none (P := Tryd.prog) w w.heap.size 39 39 38 i0 7 Tryd.underlying39 hi (.slice none 0 0) 0 [] (World.ownsRow_nil _ _ _ _), World.ownsRow_nil _ _ _ _, Below.refl _ _, fun k hk => by cases hk⟩
    | some x =>
      obtain ⟨v', w', hrun, h2, h3, h4, h5⟩ := run_append_own_at (P := Tryd.prog) w w.heap.size 39 39 38 i0 _ 7 72 Tryd.underlying39 hi hz0 hz1 hz2 rfl (by decide) (.slice none 0 0) 0 [] (World.ownsRow_nil _ _ _ _) x 0 cap [] rfl (fun j u hj => by simp at hj) (fun u hu => by cases hu) (by unfold maxLen; omega) (by omega) (Nat.le_refl _)
      have hg := (Upd.refl (fun _ => False) w).grown h3 (fun k hk => by cases hk)
      simp only [List.append_nil, Nat.add_zero] at h2
      have h6 := own_base h2 hB
      have h7 := hg.below w.heap.size (Nat.le_refl _) (fun k hk => hk.elim)
      have h8 : ∀ k, v'.ownBlock = some k → w.heap.size ≤ k := fun k hk => (h2.lt k hk).1
      refine ⟨v', w', ?_, ?_, h7, h8⟩
      · simpa using hrun
      · simpa [cellsN] using h6
  · have hcell : ∀ j u, (cellsN N)[j]? = some u → w.cell? ((⟨b, off, none⟩ : Addr).add j) = some u := fun j u hj => by
      have hlt := (List.getElem?_eq_some_iff.1 hj).1
      rw [cellsN_len] at hlt
      have hi : j / 7 < N.length := by omega
      have hx : N[j / 7]? = some (N[j / 7]'hi) := List.getElem?_eq_getElem hi
      have h1 := hc (j / 7) _ hx (j % 7) (Nat.mod_lt _ (by decide))
      have h2 := cellsN_at N (j / 7) (j % 7) _ hx (Nat.mod_lt _ (by decide))
      have e : j / 7 * 7 + j % 7 = j := by omega
      rw [e] at h2
      rw [add_none, ← hj, h2, ← h1]
      congr 2
      omega
    obtain ⟨v', w', hrun, h2, h3, h4, h5⟩ := run_append_own_at (P := Tryd.prog) w w.heap.size 39 39 38 i0 _ 7 72 Tryd.underlying39 hi hz0 hz1 hz2 rfl (by decide) (.slice none 0 0) 0 [] (World.ownsRow_nil _ _ _ _) ⟨b, off, none⟩ N.length cap (cellsN N) (cellsN_len N) hcell (cellsN_one' N) (by unfold maxLen; omega) (by omega) (Nat.le_refl _)
    rw [Nat.zero_add, List.nil_append] at h2
    have hg := (Upd.refl (fun _ => False) w).grown h3 (fun k hk => by cases hk)
    exact ⟨v', w', hrun, own_base h2 hB, hg.below _ (Nat.le_refl _) (fun k hk => hk.elim), fun k hk => (h2.lt k hk).1⟩
end Go.Proofs.YtafljgjkcnbhbaaDoor

/- A source is written over, cell by cell. -/
namespace Go.Proofs.YtafljgjkcnbhbaaDoor
open Go.RowKit
set_option linter.unusedVariables false

theorem cellsD_ty : ∀ (D : List Df) (vs : List Value) (i : Nat) (d : Df) (N : List Nd), D[i]? = some d → cellsD (D.set i { d with ty := N }) vs = cellsD D vs
  | [], vs, i, d, N, h => by simp at h
  | x :: D, [], i, d, N, h => by cases i <;> rfl
  | x :: D, u :: vs, 0, d, N, h => by
    simp at h
    subst h
    rfl
  | x :: D, u :: vs, i + 1, d, N, h => by
    have ih := cellsD_ty D vs i d N (by simpa using h)
    show dfc x u ++ cellsD (D.set i _) vs = dfc x u ++ cellsD D vs
    rw [ih]
theorem cellsD_a : ∀ (D : List Df) (vs : List Value) (i : Nat) (d : Df) (x : Int), D[i]? = some d → vs.length = D.length → (cellsD D vs).set (i * 3 + 1) (.int .i64 x) = cellsD (D.set i { d with a := x }) vs
  | [], vs, i, d, x, h, _ => by simp at h
  | y :: D, [], i, d, x, h, hl => by simp at hl
  | y :: D, u :: vs, 0, d, x, h, hl => by
    simp at h
    subst h
    rfl
  | y :: D, u :: vs, i + 1, d, x, h, hl => by
    have ih := cellsD_a D vs i d x (by simpa using h) (by simpa using hl)
    show (dfc y u ++ cellsD D vs).set ((i + 1) * 3 + 1) _ = dfc y u ++ cellsD (D.set i _) vs
    rw [List.set_append_right _ _ (by simp [dfc]; omega)]
    rw [show (i + 1) * 3 + 1 - (dfc y u).length = i * 3 + 1 by simp [dfc]; omega, ih]
theorem cellsN_a : ∀ (N : List Nd) (m : Nat) (y : Nd) (x : Int), N[m]? = some y → (cellsN N).set (m * 7 + 6) (.int .i64 x) = cellsN (N.set m { y with a := x })
  | [], m, y, x, h => by simp at h
  | z :: N, 0, y, x, h => by
    simp at h
    subst h
    have e : cellsN (z :: N) = ndc z ++ cellsN N := by simp [cellsN]
    rw [e]
    rfl
  | z :: N, m + 1, y, x, h => by
    have ih := cellsN_a N m y x (by simpa using h)
    have e : ∀ M, cellsN (z :: M) = ndc z ++ cellsN M := fun M => by simp [cellsN]
    rw [e, List.set_cons_succ, e, List.set_append_right _ _ (by rw [ndc_len]; omega)]
    rw [show (m + 1) * 7 + 6 - (ndc z).length = m * 7 + 6 by rw [ndc_len]; omega, ih]
/-- A cell of a row of the call's own is written. -/
theorem own_set {w : World} {B e c n i : Nat} {v u : Value} {xs : List Value} (h : w.ownsRow B e c v n xs) (hi : i < n * c) (hn : 0 < n) :
    ∃ g cap, v = .slice (some ⟨g, 0, none⟩) n cap ∧ n ≤ cap ∧ cap ≤ 9223372036854775807 ∧ B ≤ g ∧ w.cell? ⟨g, i, none⟩ = xs[i]? ∧ w.frozen? ⟨g, i, none⟩ = false ∧ (w.setCell ⟨g, i, none⟩ u).ownsRow B e c v n (xs.set i u) := by
  obtain ⟨g, cap, ys, rfl, hb, hc, hm, hl, ht, hK⟩ := ownS_blk h hn
  refine ⟨g, cap, rfl, hc, by unfold maxLen at hm; exact hm, hb, ?_, hK.frozen i, ?_⟩
  · rw [hK.cell, ← ht, List.getElem?_take, if_pos hi]
  · have h2 := ownS_of_blk (B := B) (n := n) (c := c) (cap := cap) (hK.set i u) hb (by simpa using hl) hc hm
    rw [List.take_set, ht] at h2
    exact h2
theorem Src.setA {w : World} {B : Nat} {vd : Value} {D : List Df} {vs : List Value} (h : Src w B vd D vs) {i : Nat} {d : Df} (hd : D[i]? = some d) (x : Int) :
    ∃ g cap, vd = .slice (some ⟨g, 0, none⟩) D.length cap ∧ D.length ≤ cap ∧ B ≤ g ∧ w.cell? ⟨g, i * 3 + 1, none⟩ = some (.int .i64 d.a) ∧ w.frozen? ⟨g, i * 3 + 1, none⟩ = false ∧ Src (w.setCell ⟨g, i * 3 + 1, none⟩ (.int .i64 x)) B vd (D.set i { d with a := x }) vs := by
  have hi := (List.getElem?_eq_some_iff.1 hd).1
  have hv : vs[i]? = some (vs[i]'(by rw [h.1]; exact hi)) := List.getElem?_eq_getElem _
  obtain ⟨g, cap, hvd, hc, _, hb, h1, h2, h3⟩ := own_set (u := .int .i64 x) h.2.1 (i := i * 3 + 1) (by omega) (by omega)
  have hat := cellsD_at D vs i 1 d _ hd hv (by decide)
  rw [hat] at h1
  refine ⟨g, cap, hvd, hc, hb, h1, h2, by rw [List.length_set]; exact h.1, ?_, ?_, h.2.2.2⟩
  · rw [List.length_set, ← cellsD_a D vs i d x hd h.1]
    exact h3
  · intro j e u he hu
    have hU : Upd (fun k => k = g) w (w.setCell ⟨g, i * 3 + 1, none⟩ (.int .i64 x)) := (Upd.refl _ w).set _ _ (.inl rfl)
    have hvo : vd.ownBlock = some g := by rw [hvd]; rfl
    have key : ∀ (d' : Df), D[j]? = some d' → (w.setCell ⟨g, i * 3 + 1, none⟩ (.int .i64 x)).ownsRow B 38 7 u d'.ty.length (cellsN d'.ty) := fun d' hd' => ownS_upd (h.2.2.1 j d' u hd' hu) hU (fun k hk e => by
      subst e
      obtain ⟨ys, hy⟩ := ownS_type (h.2.2.1 j d' u hd' hu) hk
      obtain ⟨zs, hz⟩ := ownS_type h.2.1 hvo
      exact absurd (blk_type hy hz) (by decide))
    by_cases hij : i = j
    · subst hij
      rw [List.getElem?_set_self (by exact hi)] at he
      injection he with he
      subst he
      exact key d hd
    · rw [List.getElem?_set_ne hij] at he
      exact key e he
theorem Src.setN {w : World} {B : Nat} {vd : Value} {D : List Df} {vs : List Value} (h : Src w B vd D vs) {i m : Nat} {d : Df} {v : Value} {y : Nd} (hd : D[i]? = some d) (hv : vs[i]? = some v) (hy : d.ty[m]? = some y) (x : Int) :
    ∃ g cap, v = .slice (some ⟨g, 0, none⟩) d.ty.length cap ∧ d.ty.length ≤ cap ∧ B ≤ g ∧ w.cell? ⟨g, m * 7 + 6, none⟩ = some (.int .i64 y.a) ∧ w.frozen? ⟨g, m * 7 + 6, none⟩ = false ∧ Src (w.setCell ⟨g, m * 7 + 6, none⟩ (.int .i64 x)) B vd (D.set i { d with ty := d.ty.set m { y with a := x } }) vs := by
  have hi := (List.getElem?_eq_some_iff.1 hd).1
  have hm := (List.getElem?_eq_some_iff.1 hy).1
  obtain ⟨g, cap, hvv, hc, _, hb, h1, h2, h3⟩ := own_set (u := .int .i64 x) (h.2.2.1 i d v hd hv) (i := m * 7 + 6) (by omega) (by omega)
  have hat := cellsN_at d.ty m 6 y hy (by decide)
  rw [hat] at h1
  have hU : Upd (fun k => k = g) w (w.setCell ⟨g, m * 7 + 6, none⟩ (.int .i64 x)) := (Upd.refl _ w).set _ _ (.inl rfl)
  have hvo : v.ownBlock = some g := by rw [hvv]; rfl
  refine ⟨g, cap, hvv, hc, hb, h1, h2, by rw [List.length_set]; exact h.1, ?_, ?_, h.2.2.2⟩
  · rw [List.length_set, cellsD_ty D vs i d _ hd]
    exact ownS_upd h.2.1 hU (fun k hk e => by
      subst e
      obtain ⟨ys, hz⟩ := ownS_type (h.2.2.1 i d v hd hv) hvo
      obtain ⟨zs, hz2⟩ := ownS_type h.2.1 hk
      exact absurd (blk_type hz hz2) (by decide))
  · intro j e u he hu
    by_cases hij : i = j
    · subst hij
      rw [List.getElem?_set_self (by exact hi)] at he
      injection he with he
      subst he
      rw [hv] at hu
      injection hu with hu
      subst hu
      show (w.setCell _ _).ownsRow B _ 7 v (d.ty.set m _).length (cellsN (d.ty.set m _))
      rw [List.length_set, ← cellsN_a d.ty m y x hy]
      exact h3
    · rw [List.getElem?_set_ne hij] at he
      exact ownS_upd (h.2.2.1 j e u he hu) hU (fun k hk e2 => by
        subst e2
        exact hij (h.2.2.2 i j v u k hv hu hvo hk))
def zNd (x : Nd) : Nd := { x with a := 0 }
def zDf (d : Df) : Df := ⟨d.name, 0, d.ty.map zNd⟩
end Go.Proofs.YtafljgjkcnbhbaaDoor

/- A source that Check takes, written as tokens, is parsed back; plain. -/
namespace Go.Proofs.YtafljgjkcnbhbaaDoor
open Go.RowKit
set_option linter.unusedVariables false

theorem wp_z : ∀ (fu d : Nat) (k : Int) (n : Nat) (N : List Nd) (b : Nat) (T : List Q) (N' : List Nd), WP fu d k n N b T N' → N'.map zNd = N.map zNd
  | 0, d, k, n, N, b, T, N', h => by obtain ⟨_, rfl, _, rfl⟩ := h; rfl
  | fu + 1, d, k, 0, N, b, T, N', h => by obtain ⟨rfl, _, rfl⟩ := h; rfl
  | fu + 1, d, k, n + 1, N, b, T, N', h => by
    obtain ⟨x, A, B, TA, TB, A', B', rfl, _, hA, hB, _, rfl⟩ := h
    have e1 := wp_z fu _ _ _ _ _ _ _ hA
    have e2 := wp_z fu _ _ _ _ _ _ _ hB
    simp only [List.map_cons, List.map_append, e1, e2]
    rfl
/-- The definitions written from token number b on. -/
def WD : List Df → Nat → List Q → List Df → Prop
  | [], _, T, D' => T = [] ∧ D' = []
  | d :: D, b, T, D' => ∃ TN N' TD E', WP d.ty.length 0 0 1 d.ty (b + 3) TN N' ∧ WD D (b + 3 + TN.length + 1) TD E' ∧ T = qw ⟨#[116, 121, 112, 101]⟩ :: qw d.name :: qm 61 :: (TN ++ (qm 59 :: TD)) ∧ D' = ⟨d.name, ((b + 1 : Nat) : Int), N'⟩ :: E'
theorem wd_of : ∀ (D : List Df), (∀ d ∈ D, isName d.name = true ∧ Forest d.ty.length 0 0 1 d.ty) → ∀ b, ∃ T D', WD D b T D'
  | [], _, b => ⟨[], [], rfl, rfl⟩
  | d :: D, h, b => by
    obtain ⟨TN, N', hN⟩ := wp_of _ _ _ _ _ (h d (by simp)).2 (b + 3)
    obtain ⟨TD, E', hD⟩ := wd_of D (fun e he => h e (by simp [he])) (b + 3 + TN.length + 1)
    exact ⟨_, _, TN, N', TD, E', hN, hD, rfl, rfl⟩
theorem wd_z : ∀ (D : List Df) (b : Nat) (T : List Q) (D' : List Df), WD D b T D' → D'.map zDf = D.map zDf ∧ D'.length = D.length
  | [], b, T, D', h => by obtain ⟨_, rfl⟩ := h; exact ⟨rfl, rfl⟩
  | d :: D, b, T, D', h => by
    obtain ⟨TN, N', TD, E', hN, hD, _, rfl⟩ := h
    obtain ⟨e1, e2⟩ := wd_z D _ _ _ hD
    have e3 := wp_z _ _ _ _ _ _ _ _ hN
    refine ⟨?_, by simp [e2]⟩
    simp only [List.map_cons, e1]
    congr 1
    unfold zDf
    simp only [e3]
section
variable {qs : List Q}
theorem nm_at {i : Nat} {s : ByteArray} (h : qAt qs i = qw s) (hn : isName s = true) : tak qs isNm i = .ok (i + 1) := by
  unfold tak
  rw [h, if_pos (by exact hn)]
theorem src_b : ∀ (D : List Df) (i : Nat) (T : List Q) (D' : List Df) (f : Nat) (Da : List Df), WD D i T D' → (∀ d ∈ D, isName d.name = true) → qs.drop i = T → D.length < f → srcP qs f Da i = .ok (Da ++ D')
  | [], i, T, D', f, Da, h, hn, ht, hf => by
    obtain ⟨rfl, rfl⟩ := h
    cases f with
    | zero => omega
    | succ f =>
      unfold srcP
      have : qs.length ≤ i := by
        have := congrArg List.length ht
        simp at this
        omega
      rw [if_neg (by omega), List.append_nil]
  | d :: D, i, T, D', f, Da, h, hn, ht, hf => by
    obtain ⟨TN, N', TD, E', hN, hD, rfl, rfl⟩ := h
    cases f with
    | zero => omega
    | succ f =>
      simp only [List.length_cons] at hf
      have hi : i < qs.length := by
        have := congrArg List.length ht
        simp at this
        omega
      have h0 : AtT qs i (qw ⟨#[116, 121, 112, 101]⟩ :: qw d.name :: qm 61 :: (TN ++ (qm 59 :: TD))) := ⟨[], by rw [ht]; simp⟩
      obtain ⟨t0, h0⟩ := h0.head
      obtain ⟨t1, h0⟩ := h0.head
      obtain ⟨t2, h0⟩ := h0.head
      obtain ⟨tn, h0⟩ := h0.app
      obtain ⟨t3, h0⟩ := h0.head
      have hsub := one_plain (qs := qs) (d := 0) (F := d.ty.length) (fun f _ => node_b f) (Nat.le_refl _) (by decide) (by decide) hN tn
      have hdf : defP qs (i + 1) = .ok (⟨d.name, ((i + 1 : Nat) : Int), N'⟩, i + 3 + TN.length + 1) := by
        unfold defP
        rw [nm_at t1 (hn d (by simp)), bnd_ok, txt_at t2, bnd_ok]
        rw [show i + 1 + 1 + 1 = i + 3 by omega] at t3 ⊢
        rw [hsub, bnd_ok]
        simp only
        rw [txt_at t3, bnd_ok, t1]
        rfl
      have htd : qs.drop (i + 3 + TN.length + 1) = TD := by
        have e : i + 3 + TN.length + 1 = i + (3 + TN.length + 1) := by omega
        rw [e, ← List.drop_drop, ht]
        have e2 : (qw ⟨#[116, 121, 112, 101]⟩ :: qw d.name :: qm 61 :: (TN ++ (qm 59 :: TD))) = (qw ⟨#[116, 121, 112, 101]⟩ :: qw d.name :: qm 61 :: (TN ++ [qm 59])) ++ TD := by simp
        rw [e2]
        exact List.drop_left' (by simp; omega)
      unfold srcP
      have tt : txt qs ⟨#[116, 121, 112, 101]⟩ i = .ok (i + 1) := by unfold txt tak; rw [t0, if_pos (by simp [isT, qw])]
      rw [if_pos hi, tt, bnd_ok, if_neg (by omega), hdf, bnd_ok]
      simp only
      rw [src_b D _ TD E' f _ hD (fun e he => hn e (by simp [he])) htd (by omega)]
      simp
end
/-- What Check takes, written down, is parsed back. -/
theorem back_tok {D : List Df} (h : (ckP D).2.2 = 0) : ∃ T D', WD D 0 T D' ∧ srcP T 257 [] 0 = .ok D' ∧ D'.map zDf = D.map zDf := by
  obtain ⟨hl, hall⟩ := ckP_all h
  obtain ⟨T, D', hW⟩ := wd_of D hall 0
  refine ⟨T, D', hW, ?_, (wd_z D 0 T D' hW).1⟩
  have := src_b (qs := T) D 0 T D' 257 [] hW (fun d hd => (hall d hd).1) rfl (by omega)
  rw [List.nil_append] at this
  exact this
end Go.Proofs.YtafljgjkcnbhbaaDoor

/- Other blanks between the tokens, plain. -/
namespace Go.Proofs.YtafljgjkcnbhbaaDoor
set_option linter.unusedVariables false

theorem cut_ge (l : List UInt8) (p : Nat) : ∀ t ∈ (cut l p).1, p ≤ t.a := by
  refine cut_ind (fun l p => ∀ t ∈ (cut l p).1, p ≤ t.a) ?_ ?_ ?_ ?_ ?_ ?_ l p
  · intro p; simp [cut_nil]
  · intro c r p hb ih; rw [cut_blank r p hb]; intro t ht; have := ih t ht; omega
  · intro c r p hs h2; rw [cut_end p hs h2]; simp
  · intro c r d s p hs h2 h3 ih; rw [cut_rem p hs h2 h3]; intro t ht; have := ih t ht; omega
  · intro c r p hb hs he; rw [cut_bad r p hb hs he]; simp
  · intro w s p hw ho ih
    rw [cut_word hw ho p]
    unfold app
    split
    · intro t ht
      simp only [List.mem_cons] at ht
      rcases ht with rfl | ht
      · rw [(tkW_is hw p).2.2.2.1]; exact Nat.le_refl _
      · have := ih t ht; omega
    · intro t ht
      have := ih t ht; omega
/-- Places rise. -/
theorem cut_rise (l : List UInt8) (p : Nat) : (cut l p).1.Pairwise (fun a b => a.a < b.a) := by
  refine cut_ind (fun l p => (cut l p).1.Pairwise (fun a b => a.a < b.a)) ?_ ?_ ?_ ?_ ?_ ?_ l p
  · intro p; simp [cut_nil]
  · intro c r p hb ih; rw [cut_blank r p hb]; exact ih
  · intro c r p hs h2; rw [cut_end p hs h2]; simp
  · intro c r d s p hs h2 h3 ih; rw [cut_rem p hs h2 h3]; exact ih
  · intro c r p hb hs he; rw [cut_bad r p hb hs he]; simp
  · intro w s p hw ho ih
    rw [cut_word hw ho p]
    unfold app
    split
    · refine List.pairwise_cons.2 ⟨fun t ht => ?_, ih⟩
      have h1 := cut_ge s (p + w.length) t ht
      have h2 := hw.pos
      rw [(tkW_is hw p).2.2.2.1]
      omega
    · exact ih
theorem cutT_rise (s : ByteArray) : (cutT s).1.Pairwise (fun a b => a.a < b.a) := by
  unfold cutT
  split
  · exact List.Pairwise.nil
  · exact cut_rise _ _
/-- The token at fault is found by its place. -/
theorem plc_find {s : ByteArray} (h : (cutT s).2.1 = 0) {k : Nat} (hk : k ≤ (cutT s).1.length) : (∀ i, i < k → ((cutT s).1.getD i tk0).a < plc (cutT s).1 s.size k) ∧ (k < (cutT s).1.length → ((cutT s).1.getD k tk0).a = plc (cutT s).1 s.size k) := by
  constructor
  · intro i hi
    have hi2 : i < (cutT s).1.length := by omega
    rcases Nat.lt_or_ge k (cutT s).1.length with h1 | h1
    · unfold plc tkAt
      rw [if_pos h1]
      have hp := List.pairwise_iff_getElem.1 (cutT_rise s) i k hi2 h1 hi
      simpa [List.getD, hi2, h1] using hp
    · have e : plc (cutT s).1 s.size k = s.size := by unfold plc tkAt; rw [if_neg (by omega)]
      have h2 := plc_lt h hi2
      unfold plc tkAt at h2
      rw [if_pos hi2] at h2
      rw [e]
      exact h2
  · intro h1
    unfold plc tkAt
    rw [if_pos h1]
theorem zdf_dfp (ts : List Tk) (L : Nat) (d : Df) : zDf (dfP ts L d) = zDf d := by
  unfold zDf dfP
  simp only [List.map_map]
  congr 1
/-- Two texts of the same tokens. -/
theorem prs_same {s x : ByteArray} (hs : (cutT s).2.1 = 0) (hx : (cutT x).2.1 = 0) (hc : (cutT x).1.map core = (cutT s).1.map core) :
    (prsT s).2.1 = (prsT x).2.1 ∧ (prsT s).1.map zDf = (prsT x).1.map zDf ∧ ((prsT s).2.1 ≠ 0 → ∃ k, k ≤ (cutT s).1.length ∧ (prsT s).2.2 = plc (cutT s).1 s.size k ∧ (prsT x).2.2 = plc (cutT x).1 x.size k) := by
  cases hr : srcP ((cutT s).1.map core) 257 [] 0 with
  | ok D =>
    have hr2 : srcP ((cutT x).1.map core) 257 [] 0 = .ok D := by rw [hc]; exact hr
    rw [prs_ok hs hr, prs_ok hx hr2]
    refine ⟨rfl, ?_, fun h => absurd rfl h⟩
    simp only [List.map_map]
    congr 1
    funext d
    simp only [Function.comp]
    rw [zdf_dfp, zdf_dfp]
  | error e =>
    have hr2 : srcP ((cutT x).1.map core) 257 [] 0 = .error e := by rw [hc]; exact hr
    have h3 := (src_le hr).1
    rw [List.length_map] at h3
    rw [prs_err hs hr, prs_err hx hr2]
    exact ⟨rfl, rfl, fun _ => ⟨e.2, h3, rfl, rfl⟩⟩
theorem Bd.end {b F : List UInt8} {ts : List Tk} (h : Bd b ts) (hF : gp false F false = true) : cut (b ++ F) 0 = (ts, 0, 0) := by
  rw [h F]
  have := cut_gap (G := F) [] b.length hF
  rw [List.append_nil] at this
  rw [this, cut_nil]
  simp [apps]
/-- One more token, blanks ahead of it, something else behind. -/
def Bk (b : List UInt8) (ts : List Tk) : Prop := ∀ F X, IsFill F → cut (b ++ F ++ X) 0 = apps ts (cut X (b ++ F).length)
theorem Bk.nil : Bk [] [] := fun F X hF => by rw [List.nil_append, cut_gap X 0 hF.1, apps_nil]; simp
theorem Bk.step {b F w : List UInt8} {ts : List Tk} (h : Bk b ts) (hF : IsFill F) (hw : Tw w) : Bk (b ++ F ++ w) (ts ++ [tkW w (b ++ F).length]) := fun F2 X hF2 => by
  rw [List.append_assoc, List.append_assoc]
  rw [h F (w ++ (F2 ++ X)) hF, cut_word hw (hF2.off w X), apps_app, cut_gap X _ hF2.1]
  congr 2
  simp; omega
theorem Bk.whole {b F : List UInt8} {ts : List Tk} (h : Bk b ts) (hF : IsFill F) : cut (b ++ F) 0 = (ts, 0, 0) := by
  have := h F [] hF
  rw [List.append_nil, cut_nil] at this
  rw [this]
  simp [apps]
end Go.Proofs.YtafljgjkcnbhbaaDoor

/- Tokens with what stands behind each, as a text; plain. -/
namespace Go.Proofs.YtafljgjkcnbhbaaDoor
open Go.RowKit
set_option linter.unusedVariables false

/-! ### Numbers -/
def decF : Nat → Nat → List UInt8
  | 0, _ => []
  | f + 1, n => if n < 10 then [UInt8.ofNat (48 + n)] else decF f (n / 10) ++ [UInt8.ofNat (48 + n % 10)]
def dec (n : Nat) : List UInt8 := decF 20 n
theorem dig_nat {n : Nat} (h : n < 10) : (UInt8.ofNat (48 + n)).toNat = 48 + n := by
  rw [UInt8.toNat_ofNat']
  omega
theorem decF_ok : ∀ (f n : Nat), n < 10 ^ (f + 1) → decF (f + 1) n ≠ [] ∧ (∀ c ∈ decF (f + 1) n, digit c = true) ∧ num (decF (f + 1) n) = n ∧ (1 < (decF (f + 1) n).length → ∀ c, (decF (f + 1) n).head? = some c → c.toNat ≠ 48) := by
  intro f
  induction f with
  | zero =>
    intro n hn
    have hn' : n < 10 := by simpa using hn
    unfold decF
    rw [if_pos hn']
    refine ⟨by simp, fun c hc => ?_, ?_, fun h => by simp at h⟩
    · obtain rfl := List.mem_singleton.1 hc
      unfold digit
      rw [dig_nat hn']
      exact decide_eq_true (by omega)
    · simp only [num, List.foldl]
      rw [dig_nat hn']
      omega
  | succ f ih =>
    intro n hn
    by_cases h10 : n < 10
    · unfold decF
      rw [if_pos h10]
      refine ⟨by simp, fun c hc => ?_, ?_, fun h => by simp at h⟩
      · obtain rfl := List.mem_singleton.1 hc
        unfold digit
        rw [dig_nat h10]
        exact decide_eq_true (by omega)
      · simp only [num, List.foldl]
        rw [dig_nat h10]
        omega
    · have hd : n / 10 < 10 ^ (f + 1) := by
        rw [Nat.pow_succ] at hn
        exact Nat.div_lt_of_lt_mul (by rw [Nat.mul_comm]; exact hn)
      obtain ⟨h1, h2, h3, h4⟩ := ih (n / 10) hd
      have e : decF (f + 1 + 1) n = decF (f + 1) (n / 10) ++ [UInt8.ofNat (48 + n % 10)] := by
        rw [decF, if_neg h10]
      rw [e]
      have hm : n % 10 < 10 := Nat.mod_lt _ (by decide)
      refine ⟨by simp, fun c hc => ?_, ?_, fun hl c hc => ?_⟩
      · rcases List.mem_append.1 hc with hc | hc
        · exact h2 c hc
        · obtain rfl := List.mem_singleton.1 hc
          unfold digit
          rw [dig_nat hm]
          exact decide_eq_true (by omega)
      · rw [num_snoc, h3, dig_nat hm]
        omega
      · cases hL : decF (f + 1) (n / 10) with
        | nil => exact absurd hL h1
        | cons a L =>
          rw [hL] at hc h3 h4
          simp at hc
          subst hc
          by_cases hl1 : 1 < (a :: L).length
          · exact h4 hl1 a rfl
          · have : L = [] := by cases L with | nil => rfl | cons b L => simp at hl1
            subst this
            intro e2
            simp only [num, List.foldl] at h3
            omega
theorem dec_ok {n : Nat} (h : n ≤ 2147483647) : ∃ c r, dec n = c :: r ∧ digit c = true ∧ (∀ x ∈ r, digit x = true) ∧ num (dec n) = n ∧ erW (dec n) = 0 := by
  obtain ⟨h1, h2, h3, h4⟩ := decF_ok 19 n (Nat.lt_of_le_of_lt h (by decide))
  have e : dec n = decF (19 + 1) n := rfl
  rw [← e] at h1 h2 h3 h4
  cases hD : dec n with
  | nil => exact absurd hD h1
  | cons c r =>
    rw [hD] at h2 h3 h4
    have hc := h2 c (by simp)
    refine ⟨c, r, rfl, hc, fun x hx => h2 x (by simp [hx]), h3, ?_⟩
    have hlet : letter c = false := by
      unfold letter digit at *
      have := of_decide_eq_true hc
      exact decide_eq_false (by omega)
    have hok : numOk (c :: r) = true := by
      unfold numOk
      refine decide_eq_true ⟨fun ⟨h5, y, h6, h7⟩ => h4 h5 y h6 h7, by rw [h3]; exact h⟩
    show (if letter c then (if r.length < 32 then 0 else 52) else if digit c then (if numOk (c :: r) then 0 else 51) else 0) = 0
    rw [hlet, hc, hok]
    rfl
/-! ### A token's bytes -/
def wb (q : Q) : List UInt8 := if q.k = 2 then dec q.n.toNat else q.t.data.toList
def GoodQ (q : Q) : Prop := (q.k = 1 ∧ q.n = 0 ∧ Tw q.t.data.toList ∧ ∀ c r, q.t.data.toList = c :: r → letter c = true) ∨ (q.k = 2 ∧ q.t = ⟨#[]⟩ ∧ 0 ≤ q.n ∧ q.n ≤ 2147483647) ∨ (q.k = 3 ∧ q.n = 0 ∧ ∃ b, q.t = ⟨#[b]⟩ ∧ mark b = true)
theorem mark_not {b : UInt8} (h : mark b = true) : letter b = false ∧ digit b = false ∧ goes b = false := by
  simp [mark, letter, digit, goes] at *
  omega
theorem dig_not {c : UInt8} (h : digit c = true) : letter c = false := by
  simp [letter, digit] at *
  omega
theorem good_tw {q : Q} (h : GoodQ q) : Tw (wb q) ∧ ∀ p, tkW (wb q) p = ⟨q.k, q.t, q.n, p, p + (wb q).length⟩ := by
  obtain ⟨k, t, n⟩ := q
  rcases h with ⟨h1, h2, h3, h4⟩ | ⟨h1, h2, h3, h4⟩ | ⟨h1, h2, b, h3, h4⟩
  · simp only at h1 h2 h3 h4
    subst h1 h2
    have hw : wb ⟨1, t, 0⟩ = t.data.toList := by unfold wb; rw [if_neg (by simp)]
    rw [hw]
    refine ⟨h3, fun p => ?_⟩
    obtain ⟨c, r, hc, _⟩ := h3
    have hl := h4 c r hc
    rw [hc]
    unfold tkW
    simp only
    rw [hl, if_pos rfl]
    have : (⟨(c :: r).toArray⟩ : ByteArray) = t := by rw [← hc]
    rw [this]
  · simp only at h1 h2 h3 h4
    subst h1 h2
    have hw : wb ⟨2, ⟨#[]⟩, n⟩ = dec n.toNat := by unfold wb; rw [if_pos rfl]
    rw [hw]
    obtain ⟨c, r, e, hc, hr, hn, her⟩ := dec_ok (n := n.toNat) (by omega)
    have hl := dig_not hc
    refine ⟨⟨c, r, e, by rw [hc]; simp, fun x hx => by unfold follows; rw [hl, hc]; exact hr x hx, her⟩, fun p => ?_⟩
    rw [e] at hn ⊢
    unfold tkW
    simp only
    rw [hl, hc, hn]
    have : ((n.toNat : Nat) : Int) = n := by omega
    rw [this]
    rfl
  · simp only at h1 h2 h3 h4
    subst h1 h2 h3
    obtain ⟨m1, m2, _⟩ := mark_not h4
    have hw : wb ⟨3, ⟨#[b]⟩, 0⟩ = [b] := by unfold wb; rw [if_neg (by simp)]
    rw [hw]
    refine ⟨⟨b, [], rfl, by rw [h4]; simp, fun x hx => (by cases hx), ?_⟩, fun p => ?_⟩
    · show (if letter b then _ else if digit b then _ else 0) = 0
      rw [m1, m2]; rfl
    · unfold tkW
      simp only
      rw [m1, m2]
      rfl
theorem good_num {n : Int} (h : numB n = true) : GoodQ (qn n) := by
  have := of_decide_eq_true h
  exact .inr (.inl ⟨rfl, rfl, this.1, this.2⟩)
theorem good_mark {b : UInt8} (h : mark b = true) : GoodQ (qm b) := .inr (.inr ⟨rfl, rfl, b, rfl, h⟩)
theorem good_name {s : ByteArray} (h : isName s = true) : GoodQ (qw s) := by
  obtain ⟨h1, h2, h3, h4, _⟩ := of_decide_eq_true h
  refine .inl ⟨rfl, rfl, ?_, ?_⟩
  · show Tw s.data.toList
    have hsz := Lib.size_eq s
    cases hl : s.data.toList with
    | nil => rw [hl] at hsz; simp only [List.length_nil] at hsz; omega
    | cons c r =>
      have e0 : s[0]'h1 = c := by
        have := at_list s 0 h1
        rw [hl] at this
        simpa using this.symm
      have hc := h3 h1
      rw [e0] at hc
      refine ⟨c, r, rfl, by rw [hc]; simp, fun x hx => ?_, ?_⟩
      · unfold follows
        rw [hc, if_pos rfl]
        obtain ⟨i, hi, rfl⟩ := List.getElem_of_mem hx
        have hi2 : i + 1 < s.size := by rw [hsz, hl]; simp; omega
        have := at_list s (i + 1) hi2
        rw [hl] at this
        have e1 : r[i] = s[i + 1]'hi2 := by
          rw [List.getElem?_cons_succ, List.getElem?_eq_getElem hi] at this
          exact Option.some.inj this
        rw [e1]
        exact h4 (i + 1) hi2
      · show (if letter c then (if r.length < 32 then 0 else 52) else _) = 0
        rw [hc, if_pos rfl, if_pos (by rw [hl] at hsz; simp at hsz; omega)]
  · intro c r e
    have e0 : s[0]'h1 = c := by
      have := at_list s 0 h1
      have e' : s.data.toList = c :: r := e
      rw [e'] at this
      simpa using this.symm
    have hc := h3 h1
    rw [e0] at hc
    exact hc
theorem good_key (s : ByteArray) (h : s ∈ [(⟨#[117, 56]⟩ : ByteArray), ⟨#[117, 49, 54]⟩, ⟨#[117, 51, 50]⟩, ⟨#[117, 54, 52]⟩, ⟨#[98, 111, 111, 108]⟩, ⟨#[118, 97, 114, 105, 110, 116]⟩, ⟨#[118, 101, 99, 116, 111, 114]⟩, ⟨#[108, 105, 115, 116]⟩, ⟨#[111, 112, 116, 105, 111, 110]⟩, ⟨#[117, 110, 105, 111, 110]⟩, ⟨#[115, 116, 114, 117, 99, 116]⟩, ⟨#[116, 121, 112, 101]⟩]) : GoodQ (qw s) := by
  simp only [List.mem_cons, List.mem_nil_iff, or_false] at h
  rcases h with rfl | rfl | rfl | rfl | rfl | rfl | rfl | rfl | rfl | rfl | rfl | rfl
  all_goals exact .inl ⟨rfl, rfl, ⟨_, _, rfl, by decide, by decide, by decide⟩, fun c r e => by injection e with e _; subst e; decide⟩
theorem good_word {x : Nd} {of : Int} {dp : Nat} (h : ndE x of dp = 0) : GoodQ (qw (wordT x)) := by
  rcases kinds h with ⟨k9, _, _, hn⟩ | ⟨k9, _, h4⟩
  · have hwt : wordT x = x.name := by unfold wordT; rw [if_neg (by omega), if_neg (by omega), if_neg (by omega), if_neg (by omega), if_neg (by omega), if_neg (by omega), if_neg (by omega), if_neg (by omega)]
    rw [hwt]
    exact good_name hn
  · have hk : x.k = 1 ∨ x.k = 2 ∨ x.k = 3 ∨ x.k = 4 ∨ x.k = 5 ∨ x.k = 6 ∨ x.k = 7 ∨ x.k = 8 := by omega
    apply good_key
    unfold wordT wordN
    rcases hk with e | e | e | e | e | e | e | e <;> rw [e]
    · simp only [if_pos]
      split
      · simp
      · split
        · simp
        · split <;> simp
    all_goals simp
/-! ### Pieces -/
def txtP : List (Q × List UInt8) → List UInt8
  | [] => []
  | p :: P => wb p.1 ++ (p.2 ++ txtP P)
def tksP : List (Q × List UInt8) → Nat → List Tk
  | [], _ => []
  | p :: P, n => ⟨p.1.k, p.1.t, p.1.n, n, n + (wb p.1).length⟩ :: tksP P (n + (wb p.1).length + p.2.length)
def OkS : List (Q × List UInt8) → List UInt8 → Prop
  | [], _ => True
  | p :: P, S => GoodQ p.1 ∧ gp false p.2 false = true ∧ Off (wb p.1) (p.2 ++ (txtP P ++ S)) ∧ OkS P S
theorem txtP_app : ∀ (P R : List (Q × List UInt8)), txtP (P ++ R) = txtP P ++ txtP R
  | [], R => rfl
  | p :: P, R => by simp [txtP, txtP_app P R]
theorem tks_core : ∀ (P : List (Q × List UInt8)) (n : Nat), (tksP P n).map core = P.map Prod.fst
  | [], n => rfl
  | p :: P, n => by simp [tksP, tks_core P, core]
theorem cut_pcs : ∀ (P : List (Q × List UInt8)) (n : Nat), OkS P [] → cut (txtP P) n = (tksP P n, 0, 0)
  | [], n, _ => rfl
  | p :: P, n, h => by
    obtain ⟨h1, h2, h3, h4⟩ := h
    rw [List.append_nil] at h3
    obtain ⟨g1, g2⟩ := good_tw h1
    rw [txtP, cut_word g1 h3, cut_gap _ _ h2, cut_pcs P _ h4, g2]
    rfl
theorem OkS.app : ∀ {P R : List (Q × List UInt8)} {S : List UInt8}, OkS P (txtP R ++ S) → OkS R S → OkS (P ++ R) S
  | [], R, S, _, h => h
  | p :: P, R, S, h, k => by
    obtain ⟨h1, h2, h3, h4⟩ := h
    refine ⟨h1, h2, ?_, OkS.app h4 k⟩
    show Off (wb p.1) (p.2 ++ (txtP (P ++ R) ++ S))
    rw [txtP_app, List.append_assoc]
    exact h3
/-- What follows begins with no letter, digit or underscore. -/
def Stop (S : List UInt8) : Prop := ∀ x y, S = x :: y → goes x = false
theorem Stop.off {S : List UInt8} (h : Stop S) (w : List UInt8) : Off w S := fun c r x y _ e => follows_goes (h x y e)
theorem Stop.app {F S : List UInt8} (h : Stop F) (k : Stop S) : Stop (F ++ S) := by
  cases F with
  | nil => exact k
  | cons a F => intro x y e; injection e with e _; subst e; exact h a F rfl
theorem Stop.nil : Stop [] := fun x y e => by cases e
theorem stop_mark {b : UInt8} (h : mark b = true) (F : List UInt8) (P : List (Q × List UInt8)) (S : List UInt8) : Stop (txtP ((qm b, F) :: P) ++ S) := by
  intro x y e
  have : wb (qm b) = [b] := by unfold wb qm; rw [if_neg (by simp)]
  simp only [txtP, this, List.cons_append, List.nil_append] at e
  injection e with e _
  subst e
  exact (mark_not h).2.2
def FillOk (F : List UInt8) : Prop := gp false F false = true ∧ Stop F
theorem OkS.cons {q : Q} {F : List UInt8} {P : List (Q × List UInt8)} {S : List UInt8} (h : GoodQ q) (hF : FillOk F) (hs : Stop (txtP P ++ S)) (k : OkS P S) : OkS ((q, F) :: P) S := ⟨h, hF.1, (hF.2.app hs).off _, k⟩
theorem OkS.mark {b : UInt8} {F : List UInt8} {P : List (Q × List UInt8)} {S : List UInt8} (h : Go.Proofs.YtafljgjkcnbhbaaDoor.mark b = true) (hF : FillOk F) (k : OkS P S) : OkS ((qm b, F) :: P) S := by
  refine ⟨good_mark h, hF.1, ?_, k⟩
  have hw : wb (qm b) = [b] := by unfold wb qm; rw [if_neg (by simp)]
  rw [hw]
  intro c r x y e _
  injection e with e _
  subst e
  obtain ⟨m1, m2, _⟩ := mark_not h
  unfold follows
  rw [m1, m2]
  rfl
theorem FillOk.nil : FillOk [] := ⟨rfl, Stop.nil⟩
end Go.Proofs.YtafljgjkcnbhbaaDoor

/- A source that Check takes, written as a text in a style, is parsed back; plain. -/
namespace Go.Proofs.YtafljgjkcnbhbaaDoor
open Go.RowKit
set_option linter.unusedVariables false

/-- What stands behind some of the tokens. -/
structure Sty where
  arm : List UInt8
  field : List UInt8
  lst : List UInt8
  strc : List UInt8
  num : List UInt8
  eq1 : List UInt8
  eq2 : List UInt8
  semi : List UInt8
def StyOk (st : Sty) : Prop := FillOk st.arm ∧ FillOk st.field ∧ FillOk st.lst ∧ FillOk st.strc ∧ FillOk st.num ∧ FillOk st.eq1 ∧ FillOk st.eq2 ∧ FillOk st.semi
def hdS (st : Sty) (k : Int) (x : Nd) : List (Q × List UInt8) := if k = 7 then [(qn x.tag, []), (qm 58, st.arm)] else if k = 8 then [(qw x.label, []), (qm 58, st.field)] else []
def opnS (st : Sty) (x : Nd) : List (Q × List UInt8) := if x.k = 4 ∨ x.k = 5 ∨ x.k = 6 then [(qw (wordT x), if x.k = 5 then st.lst else []), (qm 60, [])] else if x.k = 7 ∨ x.k = 8 then [(qw (wordT x), if x.k = 8 then st.strc else []), (qm 123, [])] else [(qw (wordT x), [])]
def clsS (st : Sty) (x : Nd) : List (Q × List UInt8) := if x.k = 4 ∨ x.k = 5 then [(qm 44, st.num), (qn x.n, []), (qm 62, [])] else if x.k = 6 then [(qm 62, [])] else if x.k = 7 ∨ x.k = 8 then [(qm 125, [])] else []
def sepS (k : Int) (n : Nat) : List (Q × List UInt8) := if (k = 7 ∨ k = 8) ∧ 0 < n then [(qm 44, [])] else []
theorem hdS_fst (st : Sty) (k : Int) (x : Nd) : (hdS st k x).map Prod.fst = hdT k x := by
  unfold hdS hdT
  split
  · rfl
  · split <;> rfl
theorem opnS_fst (st : Sty) (x : Nd) : (opnS st x).map Prod.fst = opnT x := by
  unfold opnS opnT
  split
  · rfl
  · split <;> rfl
theorem clsS_fst (st : Sty) (x : Nd) : (clsS st x).map Prod.fst = clsT x := by
  unfold clsS clsT
  split
  · rfl
  · split
    · rfl
    · split <;> rfl
theorem sepS_fst (k : Int) (n : Nat) : (sepS k n).map Prod.fst = sepT k n := by
  unfold sepS sepT
  split <;> rfl
def WS (st : Sty) : Nat → Nat → Int → Nat → List Nd → List (Q × List UInt8) → Prop
  | 0, _, _, n, N, P => n = 0 ∧ N = [] ∧ P = []
  | _ + 1, _, _, 0, N, P => N = [] ∧ P = []
  | fu + 1, d, k, n + 1, N, P => ∃ x A B PA PB, N = x :: (A ++ B) ∧ ndE x k d = 0 ∧ WS st fu (d + 1) x.k x.kids.toNat A PA ∧ WS st fu d k n B PB ∧ P = hdS st k x ++ (opnS st x ++ (PA ++ (clsS st x ++ (sepS k n ++ PB))))
theorem WS.zero {st : Sty} {fu d : Nat} {k : Int} {N : List Nd} {P : List (Q × List UInt8)} (h : WS st fu d k 0 N P) : N = [] ∧ P = [] := by
  cases fu with
  | zero => exact h.2
  | succ f => exact h
theorem ws_of (st : Sty) : ∀ (fu d : Nat) (k : Int) (n : Nat) (N : List Nd), Forest fu d k n N → ∃ P, WS st fu d k n N P
  | 0, d, k, n, N, h => ⟨[], h.1, h.2, rfl⟩
  | fu + 1, d, k, 0, N, h => ⟨[], h, rfl⟩
  | fu + 1, d, k, n + 1, N, h => by
    obtain ⟨x, A, B, h1, h2, h3, h4⟩ := h
    obtain ⟨PA, hA⟩ := ws_of st fu (d + 1) x.k x.kids.toNat A h3
    obtain ⟨PB, hB⟩ := ws_of st fu d k n B h4
    exact ⟨_, x, A, B, PA, PB, h1, h2, hA, hB, rfl⟩
theorem ws_wp {st : Sty} : ∀ (fu d : Nat) (k : Int) (n : Nat) (N : List Nd) (P : List (Q × List UInt8)), WS st fu d k n N P → ∀ b, ∃ N', WP fu d k n N b (P.map Prod.fst) N'
  | 0, d, k, n, N, P, h, b => by obtain ⟨h1, h2, rfl⟩ := h; exact ⟨[], h1, h2, rfl, rfl⟩
  | fu + 1, d, k, 0, N, P, h, b => by obtain ⟨h1, rfl⟩ := h; exact ⟨[], h1, rfl, rfl⟩
  | fu + 1, d, k, n + 1, N, P, h, b => by
    obtain ⟨x, A, B, PA, PB, h1, h2, hA, hB, rfl⟩ := h
    obtain ⟨A', wA⟩ := ws_wp fu _ _ _ _ _ hA (b + (hdT k x).length + (opnT x).length)
    obtain ⟨B', wB⟩ := ws_wp fu _ _ _ _ _ hB (b + (hdT k x).length + (opnT x).length + (PA.map Prod.fst).length + (clsT x).length + (sepT k n).length)
    refine ⟨_, x, A, B, _, _, A', B', h1, h2, wA, wB, ?_, rfl⟩
    simp only [List.map_append, hdS_fst, opnS_fst, clsS_fst, sepS_fst]
theorem nd_tag {x : Nd} {dp : Nat} (h : ndE x 7 dp = 0) : numB x.tag = true := by
  unfold ndE nodeE at h
  by_cases h1 : 16 < dp
  · rw [if_pos h1] at h; cases h
  rw [if_neg h1] at h
  split at h
  · cases h
  · split at h
    · cases h
    · split at h
      · cases h
      · rename_i h4
        by_cases ht : x.tag = 0
        · rw [ht]; rfl
        · cases hb : numB x.tag with
          | true => rfl
          | false => exact absurd ⟨ht, .inr hb⟩ h4
theorem nd_num {x : Nd} {of : Int} {dp : Nat} (h : ndE x of dp = 0) (hk : x.k = 4 ∨ x.k = 5) : numB x.n = true := by
  obtain ⟨_, h1, _⟩ := nd_ok h
  unfold kindOk at h1
  rw [if_neg (by omega), if_neg (by omega), if_pos hk, Bool.and_eq_true] at h1
  exact h1.1
theorem hd_ok {st : Sty} (hst : StyOk st) {k : Int} {x : Nd} {d : Nat} (h : ndE x k d = 0) (S : List UInt8) : OkS (hdS st k x) S := by
  unfold hdS
  by_cases h7 : k = 7
  · subst h7
    rw [if_pos rfl]
    exact OkS.cons (good_num (nd_tag h)) FillOk.nil (stop_mark (by decide) _ _ _) (OkS.mark (by decide) hst.1 trivial)
  · rw [if_neg h7]
    by_cases h8 : k = 8
    · subst h8
      rw [if_pos rfl]
      exact OkS.cons (good_name (nd_ok h).2.2.2.1) FillOk.nil (stop_mark (by decide) _ _ _) (OkS.mark (by decide) hst.2.1 trivial)
    · rw [if_neg h8]; trivial
theorem opn_ok {st : Sty} (hst : StyOk st) {k : Int} {x : Nd} {d : Nat} (h : ndE x k d = 0) (S : List UInt8) (hS : (x.k = 1 ∨ x.k = 2 ∨ x.k = 3 ∨ x.k = 9) → Stop S) : OkS (opnS st x) S := by
  have hw := good_word h
  unfold opnS
  by_cases h4 : x.k = 4 ∨ x.k = 5 ∨ x.k = 6
  · rw [if_pos h4]
    refine OkS.cons hw ?_ (stop_mark (by decide) _ _ _) (OkS.mark (by decide) FillOk.nil trivial)
    split
    · exact hst.2.2.1
    · exact FillOk.nil
  · rw [if_neg h4]
    by_cases h7 : x.k = 7 ∨ x.k = 8
    · rw [if_pos h7]
      refine OkS.cons hw ?_ (stop_mark (by decide) _ _ _) (OkS.mark (by decide) FillOk.nil trivial)
      split
      · exact hst.2.2.2.1
      · exact FillOk.nil
    · rw [if_neg h7]
      refine OkS.cons hw FillOk.nil ?_ trivial
      refine hS ?_
      rcases kinds h with ⟨e, _⟩ | ⟨_, _, ⟨e, _⟩ | ⟨e, _⟩ | ⟨e, _⟩ | ⟨e, _⟩⟩ <;> omega
theorem cls_ok {st : Sty} (hst : StyOk st) {k : Int} {x : Nd} {d : Nat} (h : ndE x k d = 0) (S : List UInt8) : OkS (clsS st x) S := by
  unfold clsS
  by_cases h4 : x.k = 4 ∨ x.k = 5
  · rw [if_pos h4]
    exact OkS.mark (by decide) hst.2.2.2.2.1 (OkS.cons (good_num (nd_num h h4)) FillOk.nil (stop_mark (by decide) _ _ _) (OkS.mark (by decide) FillOk.nil trivial))
  · rw [if_neg h4]
    split
    · exact OkS.mark (by decide) FillOk.nil trivial
    · split
      · exact OkS.mark (by decide) FillOk.nil trivial
      · trivial
theorem ws_ok {st : Sty} (hst : StyOk st) : ∀ (fu d : Nat) (k : Int) (n : Nat) (N : List Nd) (P : List (Q × List UInt8)) (S : List UInt8), WS st fu d k n N P → (n ≤ 1 ∨ k = 7 ∨ k = 8) → Stop S → OkS P S
  | 0, d, k, n, N, P, S, h, hk, hS => by obtain ⟨_, _, rfl⟩ := h; trivial
  | fu + 1, d, k, 0, N, P, S, h, hk, hS => by obtain ⟨_, rfl⟩ := h; trivial
  | fu + 1, d, k, n + 1, N, P, S, h, hk, hS => by
    obtain ⟨x, A, B, PA, PB, h1, h2, hA, hB, rfl⟩ := h
    have hBk := ws_ok hst fu d k n B PB S hB (by omega) hS
    have hsep : OkS (sepS k n) (txtP PB ++ S) := by
      unfold sepS
      split
      · exact OkS.mark (by decide) FillOk.nil trivial
      · trivial
    have htail : Stop (txtP (sepS k n ++ PB) ++ S) := by
      rcases Nat.eq_zero_or_pos n with h0 | h0
      · subst h0
        obtain ⟨_, rfl⟩ := hB.zero
        have : sepS k 0 = [] := by unfold sepS; rw [if_neg (by omega)]
        rw [this]
        exact hS
      · have : sepS k n = [(qm 44, [])] := by unfold sepS; rw [if_pos ⟨by omega, h0⟩]
        rw [this]
        exact stop_mark (by decide) _ _ _
    have h5 := OkS.app hsep hBk
    have h6 := OkS.app (cls_ok hst h2 (txtP (sepS k n ++ PB) ++ S)) h5
    have hcl : (x.k = 4 ∨ x.k = 5 ∨ x.k = 6 ∨ x.k = 7 ∨ x.k = 8) → Stop (txtP (clsS st x ++ (sepS k n ++ PB)) ++ S) := fun hx => by
      unfold clsS
      by_cases e1 : x.k = 4 ∨ x.k = 5
      · rw [if_pos e1]; exact stop_mark (by decide) _ _ _
      · rw [if_neg e1]
        by_cases e2 : x.k = 6
        · rw [if_pos e2]; exact stop_mark (by decide) _ _ _
        · rw [if_neg e2, if_pos (by omega)]; exact stop_mark (by decide) _ _ _
    have hPA : OkS PA (txtP (clsS st x ++ (sepS k n ++ PB)) ++ S) := by
      rcases kinds h2 with ⟨_, _, e, _⟩ | ⟨_, _, ⟨_, e, _⟩ | ⟨e1, e, _⟩ | ⟨e1, e, _⟩ | ⟨e1, _⟩⟩
      · rw [e] at hA; obtain ⟨_, rfl⟩ := hA.zero; trivial
      · rw [e] at hA; obtain ⟨_, rfl⟩ := hA.zero; trivial
      · exact ws_ok hst fu _ _ _ _ _ _ hA (by omega) (hcl (by omega))
      · exact ws_ok hst fu _ _ _ _ _ _ hA (by omega) (hcl (by omega))
      · exact ws_ok hst fu _ _ _ _ _ _ hA (by omega) (hcl (by omega))
    have h7 := OkS.app hPA h6
    have hop : OkS (opnS st x) (txtP (PA ++ (clsS st x ++ (sepS k n ++ PB))) ++ S) := opn_ok hst h2 _ (fun hx => by
      have hkd : x.kids = 0 := by
        rcases kinds h2 with ⟨_, _, e, _⟩ | ⟨_, _, ⟨_, e, _⟩ | ⟨e1, e, _⟩ | ⟨e1, e, _⟩ | ⟨e1, _⟩⟩ <;> omega
      rw [hkd] at hA
      obtain ⟨_, rfl⟩ := hA.zero
      have : clsS st x = [] := by unfold clsS; rw [if_neg (by omega), if_neg (by omega), if_neg (by omega)]
      rw [this]
      exact htail)
    have h8 := OkS.app hop h7
    exact OkS.app (hd_ok hst h2 _) h8
/-! ### Definitions -/
def WDS (st : Sty) : List Df → List (Q × List UInt8) → Prop
  | [], P => P = []
  | d :: D, P => ∃ PN PD, WS st d.ty.length 0 0 1 d.ty PN ∧ WDS st D PD ∧ P = (qw ⟨#[116, 121, 112, 101]⟩, [32]) :: (qw d.name, st.eq1) :: (qm 61, st.eq2) :: (PN ++ ((qm 59, st.semi) :: PD))
theorem wds_of (st : Sty) : ∀ (D : List Df), (∀ d ∈ D, isName d.name = true ∧ Forest d.ty.length 0 0 1 d.ty) → ∃ P, WDS st D P
  | [], _ => ⟨[], rfl⟩
  | d :: D, h => by
    obtain ⟨PN, hN⟩ := ws_of st _ _ _ _ _ (h d (by simp)).2
    obtain ⟨PD, hD⟩ := wds_of st D (fun e he => h e (by simp [he]))
    exact ⟨_, PN, PD, hN, hD, rfl⟩
theorem wds_wd {st : Sty} : ∀ (D : List Df) (P : List (Q × List UInt8)), WDS st D P → ∀ b, ∃ D', WD D b (P.map Prod.fst) D'
  | [], P, h, b => by have h' : P = [] := h; subst h'; exact ⟨[], rfl, rfl⟩
  | d :: D, P, h, b => by
    obtain ⟨PN, PD, hN, hD, rfl⟩ := h
    obtain ⟨N', wN⟩ := ws_wp _ _ _ _ _ _ hN (b + 3)
    obtain ⟨E', wD⟩ := wds_wd D PD hD (b + 3 + (PN.map Prod.fst).length + 1)
    exact ⟨_, _, N', _, E', wN, wD, by simp, rfl⟩
theorem wds_ok {st : Sty} (hst : StyOk st) : ∀ (D : List Df) (P : List (Q × List UInt8)), WDS st D P → (∀ d ∈ D, isName d.name = true) → OkS P []
  | [], P, h, _ => by have h' : P = [] := h; subst h'; trivial
  | d :: D, P, h, hn => by
    obtain ⟨PN, PD, hN, hD, rfl⟩ := h
    have hD' := wds_ok hst D PD hD (fun e he => hn e (by simp [he]))
    have h1 : OkS ((qm 59, st.semi) :: PD) [] := OkS.mark (by decide) hst.2.2.2.2.2.2.2 hD'
    have h2 : OkS PN (txtP ((qm 59, st.semi) :: PD) ++ []) := ws_ok hst _ _ _ _ _ _ _ hN (by omega) (stop_mark (by decide) _ _ _)
    have h3 := OkS.app h2 h1
    have h4 : OkS ((qm 61, st.eq2) :: (PN ++ ((qm 59, st.semi) :: PD))) [] := OkS.mark (by decide) hst.2.2.2.2.2.2.1 h3
    have h5 := OkS.cons (good_name (hn d (by simp))) hst.2.2.2.2.2.1 (stop_mark (by decide) _ _ _) h4
    refine ⟨good_key _ (by simp), by decide, ?_, h5⟩
    exact Stop.off (fun x y e => by injection e with e _; subst e; decide) _
theorem tks_pos : ∀ (P : List (Q × List UInt8)) (n j : Nat), j < P.length → ((tksP P n).getD j tk0).a = n + (txtP (P.take j)).length
  | [], n, j, h => by simp at h
  | p :: P, n, 0, h => by simp [tksP, txtP]
  | p :: P, n, j + 1, h => by
    have ih := tks_pos P (n + (wb p.1).length + p.2.length) j (by simpa using h)
    simp only [tksP, List.getD_cons_succ, List.take_succ_cons, txtP, List.length_append]
    rw [ih]
    omega
theorem tks_len : ∀ (P : List (Q × List UInt8)) (n : Nat), (tksP P n).length = P.length
  | [], n => rfl
  | p :: P, n => by simp [tksP, tks_len P]
/-- The text is parsed back: each node at the place of its token. -/
theorem text_back {st : Sty} (hst : StyOk st) {D : List Df} (h : (ckP D).2.2 = 0) : ∃ P D', WDS st D P ∧ WD D 0 (P.map Prod.fst) D' ∧ D'.map zDf = D.map zDf ∧
    ∀ s : ByteArray, s.data.toList = txtP P → s.size ≤ 65536 → cutT s = (tksP P 0, 0, 0) ∧ prsT s = (D'.map (dfP (tksP P 0) s.size), 0, 0) := by
  obtain ⟨hl, hall⟩ := ckP_all h
  obtain ⟨P, hP⟩ := wds_of st D hall
  obtain ⟨D', hW⟩ := wds_wd D P hP 0
  refine ⟨P, D', hP, hW, (wd_z D 0 _ D' hW).1, fun s hs hz => ?_⟩
  have hc : cutT s = (tksP P 0, 0, 0) := by
    unfold cutT
    rw [if_neg (by omega), hs]
    exact cut_pcs P 0 (wds_ok hst D P hP (fun d hd => (hall d hd).1))
  refine ⟨hc, ?_⟩
  have hr := src_b (qs := P.map Prod.fst) D 0 _ D' 257 [] hW (fun d hd => (hall d hd).1) rfl (by omega)
  rw [List.nil_append] at hr
  have := prs_ok (s := s) (by rw [hc]) (D := D') (by rw [hc]; simp only; rw [tks_core]; exact hr)
  rw [hc] at this
  exact this
end Go.Proofs.YtafljgjkcnbhbaaDoor

/- The document's Check. -/
namespace Go.Proofs.YtafljgjkcnbhbaaDoor
open Go.RowKit
set_option linter.unusedVariables false

set_option maxRecDepth 100000 in
set_option maxHeartbeats 8000000 in
theorem checkD_any (a : Option Addr) (c : Nat) (D : List Df) (w : World) (hL : Hid (Wt D)) (r : Hid (DRow w a D)) :
    Calls Tryd.prog 18 #[.agg #[.slice a D.length c]] w fun e w' => e = .returned (.tuple #[.int .i64 (ckP D).1, .int .i64 (ckP D).2.1, .int .i64 (ckP D).2.2]) ∧ Below w.heap.size w w' := by
  obtain ⟨R, hR⟩ : ∃ R, ckP D = R := ⟨_, rfl⟩
  have HR := hide_ hR
  rw [hR]
  clear hR
  have hD : D.length ≤ 2932031007401 := hL.out.1
  have HK := hide_ (Blk.newA w #[.slice a D.length c] 24)
  have HB0 : Hid (Below w.heap.size w (w.alloc (.cells #[.slice a D.length c] 24))) := hide_ ((Below.refl _ _).alloc (Nat.le_refl _) _)
  by_cases h256 : 256 < D.length
  · have h' : (256 : Int) < D.length := by omega
    have HV : Hid (R = (256, 0, 5)) := hide_ (by rw [← HR.out]; unfold ckP; rw [if_pos h256])
    go_enter Tryd.func18, Tryd.ntmps18
    go_wp2
    go_ret3
    exact ⟨by rw [HV.out]; rfl, HB0.out⟩
  have h' : ¬ (256 : Int) < D.length := by omega
  have HC0 : Hid (ckL (D.drop 0) 0 = R) := hide_ (by rw [← HR.out]; unfold ckP; rw [if_neg h256]; rfl)
  obtain ⟨wa, hwa⟩ : ∃ wa, wa = w.alloc (.cells #[.slice a D.length c] 24) := ⟨_, rfl⟩
  rw [← hwa] at HK HB0
  go_enter Tryd.func18, Tryd.ntmps18
  go_upto_region 4 with fail
  rw [← hwa]
  clear hwa
  go_wp2_with fail
  go_loopw [5] (fun x5 wr => ∃ i : Nat, i ≤ D.length ∧ x5 = .int .i64 (i : Int) ∧ Hid (ckL (D.drop i) i = R) ∧ Hid (Below wa.heap.size wa wr)) (fun x5 _ => D.length - (intOf x5).toNat)
  case atStart => exact ⟨0, Nat.zero_le _, rfl, HC0, hide_ (Below.refl _ _)⟩
  case round =>
    obtain ⟨i, hi, rfl, HC, HBr⟩ := hrel
    generalize wr = wq at *
    have HB := hide_ (below_to HB0.out HBr.out)
    have c0 := (HK.out.later HBr.out).cell 0
    simp at c0
    clear HC0 HR
    by_cases hlt : i < D.length
    · have hlt' : (i : Int) < D.length := by omega
      obtain ⟨b, o, rfl, hb, hc⟩ := (r.out.later HB.out).open (by omega)
      have hx : D[i]? = some (D[i]'hlt) := List.getElem?_eq_getElem hlt
      obtain ⟨va, vc, hcx, hvc, -, hN⟩ := hc i _ hx
      have hdr : D.drop i = D[i]'hlt :: D.drop (i + 1) := List.drop_eq_getElem_cons hlt
      have hty : (D[i]'hlt).ty.length ≤ 9223372036854775806 := by have := hL.out.2 _ (List.getElem_mem hlt); omega
      generalize D[i]'hlt = d at *
      rw [hdr] at HC
      have i0 := hcx 0 (by decide); have i2 := hcx 2 (by decide)
      simp [dfc] at i0 i2
      have HN := hide_ hN
      clear hc hx hcx hdr hN
      obtain ⟨nm, hnm⟩ : ∃ nm, isName d.name = nm := ⟨_, rfl⟩
      cases nm with
      | false =>
        have HV : Hid (R = ((i : Int), 0, 62)) := hide_ (by rw [← HC.out]; unfold ckL; rw [if_pos hnm])
        go_wp2_with (go_at_call 30; refine (nameD_any _ _).mono ?_; rintro e w' ⟨rfl, rfl⟩; rw [hnm])
        go_ret3
        exact ⟨by rw [HV.out]; rfl, HB.out⟩
      | true =>
        obtain ⟨T, hT⟩ : ∃ T, ct d.ty 0 [(0, 1)] = T := ⟨_, rfl⟩
        have HT := hide_ hT
        have HCon := nodes_any va vc d.ty wq hty HN
        rw [hT] at HCon
        have HCon := hide_ HCon
        clear hT
        have HC1 : Hid ((if T.2 = 0 then ckL (D.drop (i + 1)) (i + 1) else ((i : Int), T.1, T.2)) = R) := hide_ (by
          have h := HC.out
          rw [ckL, if_neg (by rw [hnm]; decide), HT.out] at h
          exact h)
        by_cases hE : T.2 = 0
        · have HC2 : Hid (ckL (D.drop (i + 1)) (i + 1) = R) := hide_ (by rw [← HC1.out, if_pos hE])
          obtain ⟨T1, T2⟩ := T
          simp only at hE
          subst hE
          clear HC1 HC HT
          go_wp2_with (first | (go_at_call 30; refine (nameD_any _ _).mono ?_; rintro e w' ⟨rfl, rfl⟩; rw [hnm]) | (go_at_call 31; refine HCon.out.mono ?_; rintro e w2 ⟨rfl, hB2⟩; (have HB2 := hide_ hB2); (clear hB2)))
          go_roundw
          case rel => exact ⟨i + 1, by omega, by go_num, HC2, hide_ (below_to HBr.out HB2.out)⟩
          case measure => simp [intOf]; omega
        · have HV : Hid (R = ((i : Int), T.1, T.2)) := hide_ (by rw [← HC1.out, if_neg hE])
          obtain ⟨T1, T2⟩ := T
          simp only at hE
          have hE' : (T2 != 0) = true := by simpa using hE
          clear HC1 HC HT
          go_wp2_with (first | (go_at_call 30; refine (nameD_any _ _).mono ?_; rintro e w' ⟨rfl, rfl⟩; rw [hnm]) | (go_at_call 31; refine HCon.out.mono ?_; rintro e w2 ⟨rfl, hB2⟩; (have HB2 := hide_ hB2); (clear hB2)))
          go_ret3
          exact ⟨by rw [HV.out]; rfl, below_to HB.out HB2.out⟩
    · obtain rfl : i = D.length := by omega
      have HV : Hid (R = (0, 0, 0)) := hide_ (by rw [← HC.out, List.drop_length]; rfl)
      go_wp2
      go_ret3
      exact ⟨by rw [HV.out]; rfl, HB.out⟩
end Go.Proofs.YtafljgjkcnbhbaaDoor

/- show.Same. -/
namespace Go.Proofs.YtafljgjkcnbhbaaDoor
open Go.RowKit
set_option linter.unusedVariables false

theorem tl_iff (s t : ByteArray) : s.toList = t.toList ↔ s = t := by
  refine ⟨fun h => ?_, fun h => by rw [h]⟩
  rw [Lib.toList_data, Lib.toList_data] at h
  apply ByteArray.ext
  exact Array.toList_inj.1 h
/-- The answer is whether it is so. -/
def Tells (P : Prop) (w : World) (e : Ending) (w' : World) : Prop := ∃ v : Bool, e = .returned (.bool v) ∧ Hid (v = true ↔ P) ∧ Hid (Below w.heap.size w w')
set_option maxRecDepth 100000 in
set_option maxHeartbeats 4000000 in
theorem sameN_any (x y : Nd) (w : World) : Calls Tryd.prog 29 #[ndv x, ndv y] w fun e w' => Tells (zNd x = zNd y) w e w' := by
  obtain ⟨k, n, nm, lb, tg, kd, a⟩ := x
  obtain ⟨k', n', nm', lb', tg', kd', a'⟩ := y
  have HB : Hid (∀ o o', Below w.heap.size w ((w.alloc o).alloc o')) := hide_ (fun o o' => ((Below.refl _ _).alloc (Nat.le_refl _) _).alloc (by simp) _)
  unfold ndv
  go_enter Tryd.func29, Tryd.ntmps29
  go_wp2
  all_goals go_ret
  all_goals
    first
    | (refine ⟨true, rfl, hide_ ⟨fun _ => ?_, fun _ => rfl⟩, hide_ (HB.out _ _)⟩; simp_all [zNd, tl_iff]; done)
    | (refine ⟨false, rfl, hide_ ⟨fun h => (by cases h), fun h => ?_⟩, hide_ (HB.out _ _)⟩; exfalso; simp_all [zNd, tl_iff]; done)
theorem take_iff {α : Type} {N M : List α} {L : Nat} (h1 : N.length = L) (h2 : M.length = L) : (N.take L = M.take L) ↔ N = M := by
  rw [List.take_of_length_le (by omega), List.take_of_length_le (by omega)]
theorem take_next {α β : Type} {f : α → β} {N M : List α} {k : Nat} {x y : α} (hx : N[k]? = some x) (hy : M[k]? = some y) (h : (N.map f).take k = (M.map f).take k) : (f x = f y) ↔ (N.map f).take (k + 1) = (M.map f).take (k + 1) := by
  have e1 : (N.map f)[k]? = some (f x) := by rw [List.getElem?_map, hx]; rfl
  have e2 : (M.map f)[k]? = some (f y) := by rw [List.getElem?_map, hy]; rfl
  obtain ⟨p1, q1⟩ := List.getElem?_eq_some_iff.1 e1
  obtain ⟨p2, q2⟩ := List.getElem?_eq_some_iff.1 e2
  rw [List.take_succ_eq_append_getElem p1, List.take_succ_eq_append_getElem p2, q1, q2, h]
  constructor
  · intro e; rw [e]
  · intro e
    have := List.append_cancel_left e
    injection this
theorem take_not {α : Type} {A C : List α} {k : Nat} (h : A = C) : A.take k = C.take k := by rw [h]
set_option maxRecDepth 100000 in
set_option maxHeartbeats 8000000 in
theorem eqN_any (a1 a2 : Option Addr) (c1 c2 L1 L2 : Nat) (N M : List Nd) (w : World) (h1 : N.length = L1) (h2 : M.length = L2) (hN : N.length ≤ 9223372036854775807) (hM : M.length ≤ 9223372036854775807) (r1 : Hid (NRow w a1 N)) (r2 : Hid (NRow w a2 M)) :
    Calls Tryd.prog 28 #[.slice a1 L1 c1, .slice a2 L2 c2, .func (.func 29) #[] #[]] w fun e w' => Tells (N.map zNd = M.map zNd) w e w' := by
  have hL1 : L1 ≤ 9223372036854775807 := by rw [← h1]; exact hN
  have hL2 : L2 ≤ 9223372036854775807 := by rw [← h2]; exact hM
  have H1 := hide_ h1
  have H2 := hide_ h2
  have HN0 := hide_ hN
  have HM0 := hide_ hM
  clear h1 h2 hN hM
  have HB0 : Hid (Below w.heap.size w w) := hide_ (Below.refl _ _)
  by_cases hl : L1 = L2
  · subst hl
    go_enter Tryd.func28, Tryd.ntmps28
    go_wp2_with fail
    go_loopw [17] (fun x17 wr => ∃ k : Nat, k ≤ L1 ∧ x17 = .int .i64 (k : Int) ∧ Hid ((N.map zNd).take k = (M.map zNd).take k) ∧ Hid (Below w.heap.size w wr)) (fun x17 _ => L1 - (intOf x17).toNat)
    case atStart => exact ⟨0, Nat.zero_le _, rfl, hide_ (by simp), HB0⟩
    case round =>
      obtain ⟨k, hk, rfl, HE, HB⟩ := hrel
      generalize wr = wq at *
      by_cases hlt : k < L1
      · have hlt' : (k : Int) < L1 := by omega
        obtain ⟨b1, o1, rfl, hb1, hc1⟩ := (r1.out.later HB.out).open (by rw [H1.out]; omega)
        obtain ⟨b2, o2, rfl, hb2, hc2⟩ := (r2.out.later HB.out).open (by rw [H2.out]; omega)
        have hx : N[k]? = some (N[k]'(by rw [H1.out]; exact hlt)) := List.getElem?_eq_getElem _
        have hy : M[k]? = some (M[k]'(by rw [H2.out]; exact hlt)) := List.getElem?_eq_getElem _
        have HmN := hide_ (List.getElem_mem (l := N) (n := k) (by rw [H1.out]; exact hlt))
        have HmM := hide_ (List.getElem_mem (l := M) (n := k) (by rw [H2.out]; exact hlt))
        generalize N[k]'(by rw [H1.out]; exact hlt) = x at *
        generalize M[k]'(by rw [H2.out]; exact hlt) = y at *
        have HX := hide_ (take_next (f := zNd) hx hy HE.out)
        have g1 := hc1 k _ hx
        have g2 := hc2 k _ hy
        have i0 := g1 0 (by decide); have i1 := g1 1 (by decide); have i2 := g1 2 (by decide); have i3 := g1 3 (by decide); have i4 := g1 4 (by decide); have i5 := g1 5 (by decide); have i6 := g1 6 (by decide)
        have j0 := g2 0 (by decide); have j1 := g2 1 (by decide); have j2 := g2 2 (by decide); have j3 := g2 3 (by decide); have j4 := g2 4 (by decide); have j5 := g2 5 (by decide); have j6 := g2 6 (by decide)
        simp [ndc] at i0 j0 i1 j1 i2 j2 i3 j3 i4 j4 i5 j5 i6 j6
        have j0a : ∀ ob, (wq.alloc ob).cell? ⟨b2, o2 + k * 7, none⟩ = _ := fun ob => (cell_al wq ob _ _ hb2).trans j0
        have j1a : ∀ ob, (wq.alloc ob).cell? ⟨b2, o2 + k * 7 + 1, none⟩ = _ := fun ob => (cell_al wq ob _ _ hb2).trans j1
        have j2a : ∀ ob, (wq.alloc ob).cell? ⟨b2, o2 + k * 7 + 2, none⟩ = _ := fun ob => (cell_al wq ob _ _ hb2).trans j2
        have j3a : ∀ ob, (wq.alloc ob).cell? ⟨b2, o2 + k * 7 + 3, none⟩ = _ := fun ob => (cell_al wq ob _ _ hb2).trans j3
        have j4a : ∀ ob, (wq.alloc ob).cell? ⟨b2, o2 + k * 7 + 4, none⟩ = _ := fun ob => (cell_al wq ob _ _ hb2).trans j4
        have j5a : ∀ ob, (wq.alloc ob).cell? ⟨b2, o2 + k * 7 + 5, none⟩ = _ := fun ob => (cell_al wq ob _ _ hb2).trans j5
        have j6a : ∀ ob, (wq.alloc ob).cell? ⟨b2, o2 + k * 7 + 6, none⟩ = _ := fun ob => (cell_al wq ob _ _ hb2).trans j6
        clear g1 g2
        clear hc1 hc2 hx hy HE
        obtain ⟨kz1, kz2⟩ := blk2 wq #[.int .i64 x.k, .int .i64 x.n, .string x.name, .string x.label, .int .i64 x.tag, .int .i64 x.kids, .int .i64 x.a] #[.int .i64 y.k, .int .i64 y.n, .string y.name, .string y.label, .int .i64 y.tag, .int .i64 y.kids, .int .i64 y.a] 38
        have HBz := hide_ (below2 wq (.cells #[.int .i64 x.k, .int .i64 x.n, .string x.name, .string x.label, .int .i64 x.tag, .int .i64 x.kids, .int .i64 x.a] 38) (.cells #[.int .i64 y.k, .int .i64 y.n, .string y.name, .string y.label, .int .i64 y.tag, .int .i64 y.kids, .int .i64 y.a] 38))
        obtain ⟨wz, hwz⟩ : ∃ wz, wz = (wq.alloc (.cells #[.int .i64 x.k, .int .i64 x.n, .string x.name, .string x.label, .int .i64 x.tag, .int .i64 x.kids, .int .i64 x.a] 38)).alloc (.cells #[.int .i64 y.k, .int .i64 y.n, .string y.name, .string y.label, .int .i64 y.tag, .int .i64 y.kids, .int .i64 y.a] 38) := ⟨_, rfl⟩
        rw [← hwz] at HBz kz1 kz2
        have HBt := hide_ (HB.out.trans (HBz.out.mono HB.out.size))
        have KZ1 := hide_ kz1
        have KZ2 := hide_ kz2
        clear kz1 kz2 HBz
        go_upto_region 7 with fail
        rw [← hwz]
        clear hwz i0 i1 i2 i3 i4 i5 i6 j0 j1 j2 j3 j4 j5 j6 j0a j1a j2a j3a j4a j5a j6a
        have u0 := KZ1.out.cell 0; have u1 := KZ1.out.cell 1; have u2 := KZ1.out.cell 2; have u3 := KZ1.out.cell 3; have u4 := KZ1.out.cell 4; have u5 := KZ1.out.cell 5; have u6 := KZ1.out.cell 6
        have v0 := KZ2.out.cell 0; have v1 := KZ2.out.cell 1; have v2 := KZ2.out.cell 2; have v3 := KZ2.out.cell 3; have v4 := KZ2.out.cell 4; have v5 := KZ2.out.cell 5; have v6 := KZ2.out.cell 6
        simp at u0 v0 u1 v1 u2 v2 u3 v3 u4 v4 u5 v5 u6 v6
        go_wp2_with fail
        clear u0 v0 u1 v1 u2 v2 u3 v3 u4 v4 u5 v5 u6 v6
        refine (sameN_any x y wz).mono ?_; rintro e w2 ⟨v, rfl, HV, HB2⟩
        have HB3 := hide_ (HBt.out.trans (HB2.out.mono HBt.out.size))
        clear HB2 HBt HB
        cases v with
        | true =>
          have HE2 := hide_ (HX.out.1 (HV.out.1 rfl))
          clear HX HV
          go_wp2
          go_roundw
          case rel => exact ⟨k + 1, by omega, by go_num, HE2, HB3⟩
          case measure => simp [intOf]; omega
        | false =>
          have HE2 : Hid (¬ N.map zNd = M.map zNd) := hide_ (fun h => by have := HV.out.2 (HX.out.2 (take_not h)); cases this)
          clear HX HV
          go_wp2
          go_ret
          exact ⟨false, rfl, hide_ ⟨fun h => (by cases h), fun h => absurd h HE2.out⟩, HB3⟩
      · obtain rfl : k = L1 := by omega
        have HE2 : Hid (N.map zNd = M.map zNd) := hide_ ((take_iff (by rw [List.length_map]; exact H1.out) (by rw [List.length_map]; exact H2.out)).1 HE.out)
        clear HE
        go_wp2
        go_ret
        exact ⟨true, rfl, hide_ ⟨fun _ => HE2.out, fun _ => rfl⟩, HB⟩
  · have hl' : ¬ ((L1 : Int) = L2) := by omega
    have HE2 : Hid (¬ N.map zNd = M.map zNd) := hide_ (fun h => by have := congrArg List.length h; rw [List.length_map, List.length_map, H1.out, H2.out] at this; exact hl this)
    go_enter Tryd.func28, Tryd.ntmps28
    go_wp2
    go_ret
    exact ⟨false, rfl, hide_ ⟨fun h => (by cases h), fun h => absurd h HE2.out⟩, HB0⟩
theorem zDf_iff (x y : Df) : zDf x = zDf y ↔ x.name = y.name ∧ x.ty.map zNd = y.ty.map zNd := by
  unfold zDf
  constructor
  · intro h
    injection h with h1 h2 h3
    exact ⟨h1, h3⟩
  · intro h
    rw [h.1, h.2]
set_option maxRecDepth 100000 in
set_option maxHeartbeats 8000000 in
theorem sameD_any (x y : Df) (va1 va2 : Option Addr) (vc1 vc2 : Nat) (w : World) (hx : x.ty.length ≤ 9223372036854775807) (hy : y.ty.length ≤ 9223372036854775807) (r1 : Hid (NRow w va1 x.ty)) (r2 : Hid (NRow w va2 y.ty)) :
    Calls Tryd.prog 17 #[.agg #[.string x.name, .int .i64 x.a, .slice va1 x.ty.length vc1], .agg #[.string y.name, .int .i64 y.a, .slice va2 y.ty.length vc2]] w fun e w' => Tells (zDf x = zDf y) w e w' := by
  have HB := hide_ (below2 w (.cells #[.string x.name, .int .i64 x.a, .slice va1 x.ty.length vc1] 41) (.cells #[.string y.name, .int .i64 y.a, .slice va2 y.ty.length vc2] 41))
  have HZ := hide_ (zDf_iff x y)
  by_cases hn : x.name = y.name
  · have hn' : (x.name.toList == y.name.toList) = true := by rw [hn]; simp
    have hn2 : x.name.toList = y.name.toList := by rw [hn]
    have HC := hide_ (eqN_any va1 va2 vc1 vc2 _ _ x.ty y.ty _ rfl rfl hx hy (hide_ (r1.out.later HB.out)) (hide_ (r2.out.later HB.out)))
    have Hn := hide_ hn
    clear hn
    go_enter Tryd.func17, Tryd.ntmps17
    go_wp2_with fail
    refine HC.out.mono ?_; rintro e w2 ⟨v, rfl, HV, HB2⟩
    have HB3 := hide_ (HB.out.trans (HB2.out.mono HB.out.size))
    clear HB HB2 HC
    go_wp2
    go_ret
    exact ⟨v, rfl, hide_ ⟨fun h => HZ.out.2 ⟨Hn.out, HV.out.1 h⟩, fun h => HV.out.2 (HZ.out.1 h).2⟩, HB3⟩
  · have hn' : (x.name.toList == y.name.toList) = false := Bool.eq_false_iff.2 (fun h => hn ((tl_iff _ _).1 (eq_of_beq h)))
    have hn2 : ¬ x.name.toList = y.name.toList := fun h => hn ((tl_iff _ _).1 h)
    have Hn := hide_ hn
    clear hn
    go_enter Tryd.func17, Tryd.ntmps17
    go_wp2
    go_ret
    exact ⟨false, rfl, hide_ ⟨fun h => (by cases h), fun h => absurd (HZ.out.1 h).1 Hn.out⟩, HB⟩
set_option maxRecDepth 100000 in
set_option maxHeartbeats 8000000 in
theorem eqD_any (a1 a2 : Option Addr) (c1 c2 L1 L2 : Nat) (N M : List Df) (w : World) (h1 : N.length = L1) (h2 : M.length = L2) (hN : Lens N) (hM : Lens M) (r1 : Hid (DRow w a1 N)) (r2 : Hid (DRow w a2 M)) :
    Calls Tryd.prog 16 #[.slice a1 L1 c1, .slice a2 L2 c2, .func (.func 17) #[] #[]] w fun e w' => Tells (N.map zDf = M.map zDf) w e w' := by
  have hL1 : L1 ≤ 9223372036854775807 := by rw [← h1]; exact hN.1
  have hL2 : L2 ≤ 9223372036854775807 := by rw [← h2]; exact hM.1
  have H1 := hide_ h1
  have H2 := hide_ h2
  have HN0 := hide_ hN
  have HM0 := hide_ hM
  clear h1 h2 hN hM
  have HB0 : Hid (Below w.heap.size w w) := hide_ (Below.refl _ _)
  by_cases hl : L1 = L2
  · subst hl
    go_enter Tryd.func16, Tryd.ntmps16
    go_wp2_with fail
    go_loopw [17] (fun x17 wr => ∃ k : Nat, k ≤ L1 ∧ x17 = .int .i64 (k : Int) ∧ Hid ((N.map zDf).take k = (M.map zDf).take k) ∧ Hid (Below w.heap.size w wr)) (fun x17 _ => L1 - (intOf x17).toNat)
    case atStart => exact ⟨0, Nat.zero_le _, rfl, hide_ (by simp), HB0⟩
    case round =>
      obtain ⟨k, hk, rfl, HE, HB⟩ := hrel
      generalize wr = wq at *
      by_cases hlt : k < L1
      · have hlt' : (k : Int) < L1 := by omega
        obtain ⟨b1, o1, rfl, hb1, hc1⟩ := (r1.out.later HB.out).open (by rw [H1.out]; omega)
        obtain ⟨b2, o2, rfl, hb2, hc2⟩ := (r2.out.later HB.out).open (by rw [H2.out]; omega)
        have hx : N[k]? = some (N[k]'(by rw [H1.out]; exact hlt)) := List.getElem?_eq_getElem _
        have hy : M[k]? = some (M[k]'(by rw [H2.out]; exact hlt)) := List.getElem?_eq_getElem _
        have HmN := hide_ (List.getElem_mem (l := N) (n := k) (by rw [H1.out]; exact hlt))
        have HmM := hide_ (List.getElem_mem (l := M) (n := k) (by rw [H2.out]; exact hlt))
        generalize N[k]'(by rw [H1.out]; exact hlt) = x at *
        generalize M[k]'(by rw [H2.out]; exact hlt) = y at *
        have HX := hide_ (take_next (f := zDf) hx hy HE.out)
        obtain ⟨va1, vc1, g1, -, -, hN1⟩ := hc1 k _ hx
        obtain ⟨va2, vc2, g2, -, -, hN2⟩ := hc2 k _ hy
        have HNa := hide_ hN1
        have HNb := hide_ hN2
        have i0 := g1 0 (by decide); have i1 := g1 1 (by decide); have i2 := g1 2 (by decide)
        have j0 := g2 0 (by decide); have j1 := g2 1 (by decide); have j2 := g2 2 (by decide)
        simp [dfc] at i0 j0 i1 j1 i2 j2
        have j0a : ∀ ob, (wq.alloc ob).cell? ⟨b2, o2 + k * 3, none⟩ = _ := fun ob => (cell_al wq ob _ _ hb2).trans j0
        have j1a : ∀ ob, (wq.alloc ob).cell? ⟨b2, o2 + k * 3 + 1, none⟩ = _ := fun ob => (cell_al wq ob _ _ hb2).trans j1
        have j2a : ∀ ob, (wq.alloc ob).cell? ⟨b2, o2 + k * 3 + 2, none⟩ = _ := fun ob => (cell_al wq ob _ _ hb2).trans j2
        clear g1 g2 hN1 hN2
        clear hc1 hc2 hx hy HE
        obtain ⟨kz1, kz2⟩ := blk2 wq #[.string x.name, .int .i64 x.a, .slice va1 x.ty.length vc1] #[.string y.name, .int .i64 y.a, .slice va2 y.ty.length vc2] 41
        have HBz := hide_ (below2 wq (.cells #[.string x.name, .int .i64 x.a, .slice va1 x.ty.length vc1] 41) (.cells #[.string y.name, .int .i64 y.a, .slice va2 y.ty.length vc2] 41))
        obtain ⟨wz, hwz⟩ : ∃ wz, wz = (wq.alloc (.cells #[.string x.name, .int .i64 x.a, .slice va1 x.ty.length vc1] 41)).alloc (.cells #[.string y.name, .int .i64 y.a, .slice va2 y.ty.length vc2] 41) := ⟨_, rfl⟩
        rw [← hwz] at HBz kz1 kz2
        have HBt := hide_ (HB.out.trans (HBz.out.mono HB.out.size))
        have KZ1 := hide_ kz1
        have KZ2 := hide_ kz2
        have HBz0 := HBz
        clear kz1 kz2 HBz
        go_upto_region 7 with fail
        rw [← hwz]
        clear hwz i0 i1 i2 j0 j1 j2 j0a j1a j2a
        have u0 := KZ1.out.cell 0; have u1 := KZ1.out.cell 1; have u2 := KZ1.out.cell 2
        have v0 := KZ2.out.cell 0; have v1 := KZ2.out.cell 1; have v2 := KZ2.out.cell 2
        simp at u0 v0 u1 v1 u2 v2
        go_wp2_with fail
        clear u0 v0 u1 v1 u2 v2
        refine (sameD_any x y va1 va2 vc1 vc2 wz (HN0.out.2 _ HmN.out) (HM0.out.2 _ HmM.out) (hide_ (HNa.out.later HBz0.out)) (hide_ (HNb.out.later HBz0.out))).mono ?_; rintro e w2 ⟨v, rfl, HV, HB2⟩
        have HB3 := hide_ (HBt.out.trans (HB2.out.mono HBt.out.size))
        clear HB2 HBt HB
        cases v with
        | true =>
          have HE2 := hide_ (HX.out.1 (HV.out.1 rfl))
          clear HX HV
          go_wp2
          go_roundw
          case rel => exact ⟨k + 1, by omega, by go_num, HE2, HB3⟩
          case measure => simp [intOf]; omega
        | false =>
          have HE2 : Hid (¬ N.map zDf = M.map zDf) := hide_ (fun h => by have := HV.out.2 (HX.out.2 (take_not h)); cases this)
          clear HX HV
          go_wp2
          go_ret
          exact ⟨false, rfl, hide_ ⟨fun h => (by cases h), fun h => absurd h HE2.out⟩, HB3⟩
      · obtain rfl : k = L1 := by omega
        have HE2 : Hid (N.map zDf = M.map zDf) := hide_ ((take_iff (by rw [List.length_map]; exact H1.out) (by rw [List.length_map]; exact H2.out)).1 HE.out)
        clear HE
        go_wp2
        go_ret
        exact ⟨true, rfl, hide_ ⟨fun _ => HE2.out, fun _ => rfl⟩, HB⟩
  · have hl' : ¬ ((L1 : Int) = L2) := by omega
    have HE2 : Hid (¬ N.map zDf = M.map zDf) := hide_ (fun h => by have := congrArg List.length h; rw [List.length_map, List.length_map, H1.out, H2.out] at this; exact hl this)
    go_enter Tryd.func16, Tryd.ntmps16
    go_wp2
    go_ret
    exact ⟨false, rfl, hide_ ⟨fun h => (by cases h), fun h => absurd h HE2.out⟩, HB0⟩
set_option maxRecDepth 100000 in
set_option maxHeartbeats 8000000 in
theorem showSame_any (a1 a2 : Option Addr) (c1 c2 : Nat) (D E : List Df) (w : World) (hD : Lens D) (hE : Lens E) (r1 : Hid (DRow w a1 D)) (r2 : Hid (DRow w a2 E)) :
    Calls Tryd.prog 8 #[.agg #[.slice a1 D.length c1], .agg #[.slice a2 E.length c2]] w fun e w' => Tells (D.map zDf = E.map zDf) w e w' := by
  have HB := hide_ (below2 w (.cells #[.slice a1 D.length c1] 24) (.cells #[.slice a2 E.length c2] 24))
  have HC := hide_ (eqD_any a1 a2 c1 c2 _ _ D E _ rfl rfl hD hE (hide_ (r1.out.later HB.out)) (hide_ (r2.out.later HB.out)))
  go_enter Tryd.func8, Tryd.ntmps8
  go_wp2_with fail
  refine HC.out.mono ?_; rintro e w2 ⟨v, rfl, HV, HB2⟩
  have HB3 := hide_ (HB.out.trans (HB2.out.mono HB.out.size))
  clear HB HB2 HC
  go_wp2
  go_ret
  exact ⟨v, rfl, HV, HB3⟩
end Go.Proofs.YtafljgjkcnbhbaaDoor

/- lent. -/
namespace Go.Proofs.YtafljgjkcnbhbaaDoor
open Go.RowKit
set_option linter.unusedVariables false

theorem own_cut {w : World} {B e c g n m cap : Nat} {xs : List Value} (h : w.ownsRow B e c (.slice (some ⟨g, 0, none⟩) n cap) n xs) (hm : m ≤ n) : w.ownsRow B e c (.slice (some ⟨g, 0, none⟩) m cap) m (xs.take (m * c)) := by
  refine ⟨by rw [List.length_take, h.1]; exact Nat.min_eq_left (Nat.mul_le_mul_right c hm), ?_⟩
  rcases h.2 with ⟨h0, _⟩ | ⟨g', cap', cur, hv, hb, hg, hnc, hcm, hs, ht⟩
  · cases h0
  · injection hv with h1 h2 h3
    injection h1 with h1
    injection h1 with h1
    subst h1 h3
    refine .inr ⟨g, cap, cur, rfl, hb, hg, Nat.le_trans hm hnc, hcm, hs, ?_⟩
    rw [← ht, List.take_take]
    congr 1
    exact (Nat.min_eq_left (Nat.mul_le_mul_right c hm)).symm
def mark0 : Nd := { nd0 with k := -77 }
/-- A copy with a mark behind it: append, then cut. -/
theorem mark_push {w : World} {B : Nat} {v : Value} {N : List Nd} (h : w.ownsRow B 38 7 v N.length (cellsN N)) (hl : N.length ≤ 1000000) (hB : B ≤ w.heap.size) :
    ∃ g cap w', (Builtin.append_ #[39, 39] 39 #[v, .slice (some ⟨w.heap.size, 0, none⟩) 1 1]).run Tryd.prog (w.alloc (.cells #[.int .i64 (-77), .int .i64 0, .string ⟨#[]⟩, .string ⟨#[]⟩, .int .i64 0, .int .i64 0, .int .i64 0] 38)) = .ok (.slice (some ⟨g, 0, none⟩) (N.length + 1) cap) w' ∧
      w'.ownsRow B 38 7 (.slice (some ⟨g, 0, none⟩) N.length cap) N.length (cellsN N) ∧ Upd (fun k => v.ownBlock = some k) w w' ∧ (v.ownBlock = some g ∨ w.heap.size ≤ g) ∧ N.length + 1 ≤ cap ∧ cap ≤ 9223372036854775807 := by
  obtain ⟨g, cap, w', r1, o1, u1, c1⟩ := run_pushS (P := Tryd.prog) (t := 39) (e := 38) (c := 7) (z := .agg #[.int .i64 0, .int .i64 0, .string ⟨#[]⟩, .string ⟨#[]⟩, .int .i64 0, .int .i64 0, .int .i64 0]) (bytes := 72) Tryd.underlying39 (by kernel_rfl) rfl (by decide) w 39 h (ndc mark0) rfl (by intro u hu; simp [ndc] at hu; rcases hu with rfl | rfl | rfl | rfl | rfl | rfl | rfl <;> rfl) (by unfold maxLen; omega) (by omega) hB
  obtain ⟨g', cap', ys, hv, _, hn, hm, _⟩ := ownS_blk o1 (by omega)
  injection hv with h1 h2 h3
  subst h3
  refine ⟨g, cap, w', r1, ?_, u1, c1, hn, by unfold maxLen at hm; exact hm⟩
  have h4 := own_cut o1 (m := N.length) (by omega)
  have e : (cellsN N ++ ndc mark0).take (N.length * 7) = cellsN N := by rw [← cellsN_len]; exact List.take_left
  rw [e] at h4
  exact h4
theorem lent_round {w w7 w9 : World} {B b1 b2 b3 : Nat} {vd nv u1 u2 : Value} {D D9 : List Df} {vs vs9 : List Value} (h1 : Blk w7 b1 24 [u1]) (h2 : Blk w7 b2 24 [u2]) (h3 : Blk w7 b3 24 [vd]) (n1 : b1 ≠ b3) (n2 : b2 ≠ b3) (hb3 : B ≤ b3) (HS : Src w7 B vd D vs) (S9 : Src w9 B nv D9 vs9) (U9 : Upd (fun k => vd.ownBlock = some k) w7.drew w9) (hB : Below B w w7) :
    Hid (Src (w9.setCell ⟨b3, 0, none⟩ nv) B nv D9 vs9) ∧ Hid (Blk (w9.setCell ⟨b3, 0, none⟩ nv) b1 24 [u1]) ∧ Hid (Blk (w9.setCell ⟨b3, 0, none⟩ nv) b2 24 [u2]) ∧ Hid (Blk (w9.setCell ⟨b3, 0, none⟩ nv) b3 24 [nv]) ∧ Hid (Below B w (w9.setCell ⟨b3, 0, none⟩ nv)) := by
  have hu : Upd (fun k => vd.ownBlock = some k) w7 w9 := (Upd.refl (fun k => vd.ownBlock = some k) w7).drew.trans U9 (fun _ _ h => h)
  have hvt : ∀ (b : Nat) (x : Value), Blk w7 b 24 [x] → vd.ownBlock ≠ some b := fun b x hb e => by
    obtain ⟨zs, hz⟩ := ownS_type HS.2.1 e
    exact absurd (blk_type hb hz) (by decide)
  have k1 := h1.upd hu (hvt _ _ h1)
  have k2 := h2.upd hu (hvt _ _ h2)
  have k3 := h3.upd hu (hvt _ _ h3)
  have hU : Upd (fun k => k = b3) w9 (w9.setCell ⟨b3, 0, none⟩ nv) := (Upd.refl _ w9).set _ _ (.inl rfl)
  refine ⟨S9.other hU k3 (by decide) (by decide), k1.other _ _ n1, k2.other _ _ n2, hide_ (by have := k3.set 0 nv; simpa using this), hide_ (below_set (hB.trans (hu.below B (Nat.le_trans hb3 (Nat.le_of_lt h3.lt)) (fun k hk => (HS.2.1.lt k hk).1))) b3 0 nv hb3)⟩
theorem Src.cutS {w : World} {B g n cap : Nat} {D : List Df} {vs : List Value} {d : Df} {v : Value} (hn : D.length = n) (h : Src w B (.slice (some ⟨g, 0, none⟩) (n + 1) cap) (D ++ [d]) (vs ++ [v])) : Src w B (.slice (some ⟨g, 0, none⟩) n cap) D vs := by
  subst hn
  have hl : vs.length = D.length := by have := h.1; simp at this; exact this
  have h2 := h.2.1
  rw [List.length_append, cellsD_snoc D vs d v hl] at h2
  have h3 := own_cut h2 (m := D.length) (by simp)
  have hcl : ∀ (D : List Df) (vs : List Value), vs.length = D.length → (cellsD D vs).length = D.length * 3 := by
    intro D
    induction D with
    | nil => intro vs _; cases vs <;> simp [cellsD]
    | cons x D ih =>
      intro vs hv
      cases vs with
      | nil => simp at hv
      | cons u vs => rw [cellsD, List.length_append, ih vs (by simpa using hv)]; simp [dfc]; omega
  have e : (cellsD D vs ++ dfc d v).take (D.length * 3) = cellsD D vs := by rw [← hcl D vs hl]; exact List.take_left
  rw [e] at h3
  refine ⟨hl, h3, fun i x u hx hu => h.2.2.1 i x u ?_ ?_, fun i j x y k hx hy => h.2.2.2 i j x y k ?_ ?_⟩
  · rw [List.getElem?_append_left (List.getElem?_eq_some_iff.1 hx).1]; exact hx
  · rw [List.getElem?_append_left (List.getElem?_eq_some_iff.1 hu).1]; exact hu
  · rw [List.getElem?_append_left (List.getElem?_eq_some_iff.1 hx).1]; exact hx
  · rw [List.getElem?_append_left (List.getElem?_eq_some_iff.1 hy).1]; exact hy
theorem Src.none0 {w : World} {B : Nat} {vd : Value} {D : List Df} {vs : List Value} (h : Src w B vd D vs) : ∃ a c, vd = .slice a D.length c := own_slice h.2.1
end Go.Proofs.YtafljgjkcnbhbaaDoor

/- What is parsed, Check takes; plain. -/
namespace Go.Proofs.YtafljgjkcnbhbaaDoor
open Go.RowKit
set_option linter.unusedVariables false

/-- These nodes are c kids of one of kind o, that may hold f deep. -/
def Eats (M : List Nd) (o : Int) (f c : Nat) : Prop := ∀ (L : List (Int × Int)) (left : Int) (rest : List Nd) (i : Nat), L.length + f = 17 → (c : Int) ≤ left → ct (M ++ rest) i (L ++ [(o, left)]) = ct rest (i + M.length) (wo (L ++ [(o, left - c)]))
theorem Eats.app {M1 M2 : List Nd} {o : Int} {f c1 c2 : Nat} (h1 : Eats M1 o f c1) (h2 : Eats M2 o f c2) (hc : 0 < c2) : Eats (M1 ++ M2) o f (c1 + c2) := fun L left rest i hL hl => by
  rw [List.append_assoc, h1 L left _ i hL (by omega), wo_more _ _ (by show left - (c1 : Int) ≠ 0; omega), h2 L _ rest _ hL (by omega), List.length_append, Nat.add_assoc]
  congr 4
  show ((o, left - (c1 : Int) - c2) : Int × Int) = (o, left - ((c1 + c2 : Nat) : Int))
  congr 1
  omega
theorem ct_step {x : Nd} {L : List (Int × Int)} {o left : Int} (rest : List Nd) (i : Nat) (h : ndE x o L.length = 0) : ct (x :: rest) i (L ++ [(o, left)]) = ct rest (i + 1) (wo (L ++ [(o, left - 1), (x.k, x.kids)])) := by
  have e1 : ctE (L ++ [(o, left)]) x = 0 := by unfold ctE; simpa using h
  rw [ct, if_pos e1]
  unfold ctS
  simp
theorem Eats.leaf {x : Nd} {o : Int} {f : Nat} (hk : x.kids = 0) (h : ∀ dp, dp + f = 17 → ndE x o dp = 0) : Eats [x] o f 1 := fun L left rest i hL hl => by
  rw [List.singleton_append, ct_step rest i (h _ hL)]
  have e : L ++ [(o, left - 1), (x.k, x.kids)] = (L ++ [(o, left - 1)]) ++ [(x.k, x.kids)] := by simp
  rw [e, wo_zero _ _ hk]
  rfl
theorem Eats.over {x : Nd} {M : List Nd} {o : Int} {f c : Nat} (hk : x.kids = c) (h0 : 0 < c) (h : ∀ dp, dp + (f + 1) = 17 → ndE x o dp = 0) (hM : Eats M x.k f c) : Eats (x :: M) o (f + 1) 1 := fun L left rest i hL hl => by
  rw [List.cons_append, ct_step _ i (h _ hL)]
  have e : L ++ [(o, left - 1), (x.k, x.kids)] = (L ++ [(o, left - 1)]) ++ [(x.k, x.kids)] := by simp
  rw [e, wo_more _ _ (by show x.kids ≠ 0; omega), hM (L ++ [(o, left - 1)]) x.kids rest _ (by simp; omega) (by omega), wo_zero _ _ (by show x.kids - (c : Int) = 0; omega), List.length_cons]
  congr 1
  omega
section
variable (qs : List Q)
/-- What a part's or an expression's first node may be. -/
def Fresh (x : Nd) (o : Int) : Prop := x.name = ⟨#[]⟩ ∧ x.kids = 0 ∧ nameOk x.label (decide (o = 8)) = true ∧ (x.tag = 0 ∨ (o = 7 ∧ numB x.tag = true))
def NodeC (f : Nat) : Prop := ∀ x i M j o, nodeP qs f x i = .ok (M, j) → Fresh x o → Eats M o f 1
theorem nde_ok {k n : Int} {nm lb : ByteArray} {tg kd a o : Int} {dp : Nat} (hd : dp ≤ 16) (hm : kd ≤ 64) (hk : kindOk k n kd = true) (hn : nameOk nm (decide (k = 9)) = true) (hl : nameOk lb (decide (o = 8)) = true) (ht : tg = 0 ∨ (o = 7 ∧ numB tg = true)) : ndE ⟨k, n, nm, lb, tg, kd, a⟩ o dp = 0 := by
  unfold ndE nodeE
  simp only
  rw [if_neg (by omega), if_neg (by omega), if_neg (by rw [hk, hn, hl]; simp), if_neg]
  rintro ⟨h1, h2⟩
  rcases ht with ht | ⟨h3, h4⟩
  · exact h1 ht
  · rcases h2 with h2 | h2
    · exact h2 h3
    · rw [h4] at h2; cases h2
theorem bnd_inv {α β : Type} {r : PR α} {f : α → PR β} {b : β} (h : bnd r f = .ok b) : ∃ a, r = .ok a ∧ f a = .ok b := by
  cases r with
  | error e => cases h
  | ok a => exact ⟨a, rfl, h⟩
theorem tak_inv {may : Q → Bool} {i j : Nat} (h : tak qs may i = .ok j) : may (qAt qs i) = true ∧ j = i + 1 := by
  unfold tak at h
  by_cases hm : may (qAt qs i) = true
  · rw [if_pos hm] at h
    injection h with h
    exact ⟨hm, h.symm⟩
  · rw [if_neg hm] at h
    cases h
theorem more_c {one : Nat → Nat → PR (List Nd × Nat)} {o : Int} {f : Nat} (h : ∀ c i M j, one c i = .ok (M, j) → c < 64 ∧ Eats M o f 1) :
    ∀ (fu c : Nat) (N : List Nd) (i : Nat) (N' : List Nd) (c' j : Nat), moreP qs one fu c N i = .ok (N', c', j) → c ≤ 64 → Eats N o f c → c' ≤ 64 ∧ c ≤ c' ∧ Eats N' o f c'
  | 0, c, N, i, N', c', j, e, hc, hN => by cases e
  | fu + 1, c, N, i, N', c', j, e, hc, hN => by
    unfold moreP at e
    by_cases ht : isT ⟨#[44]⟩ (qAt qs i) = true
    · rw [if_pos ht] at e
      obtain ⟨⟨M, k⟩, e1, e2⟩ := bnd_inv e
      obtain ⟨h1, h2⟩ := h _ _ _ _ e1
      obtain ⟨a, b, d⟩ := more_c h fu (c + 1) (N ++ M) k N' c' j e2 (by omega) (hN.app h2 (by omega))
      exact ⟨a, by omega, d⟩
    · rw [if_neg ht] at e
      obtain ⟨k, e1, e2⟩ := bnd_inv e
      injection e2 with e2
      injection e2 with e3 e4
      injection e4 with e4 e5
      subst e3 e4
      exact ⟨hc, Nat.le_refl _, hN⟩
theorem parts_c {one : Nat → Nat → PR (List Nd × Nat)} {o : Int} {f : Nat} (h : ∀ c i M j, one c i = .ok (M, j) → c < 64 ∧ Eats M o f 1) {i : Nat} {N : List Nd} {c j : Nat} (e : partsP qs one i = .ok (N, c, j)) : c ≤ 64 ∧ 1 ≤ c ∧ Eats N o f c := by
  unfold partsP at e
  obtain ⟨i1, e1, e⟩ := bnd_inv e
  obtain ⟨⟨M, k⟩, e2, e⟩ := bnd_inv e
  obtain ⟨h1, h2⟩ := h _ _ _ _ e2
  exact more_c qs h _ _ _ _ _ _ _ e (by decide) h2
end
end Go.Proofs.YtafljgjkcnbhbaaDoor

/- What is parsed, Check takes; plain: nodes. -/
namespace Go.Proofs.YtafljgjkcnbhbaaDoor
open Go.RowKit
set_option linter.unusedVariables false

theorem beg_cases (t : ByteArray) : (beg t).1 = 0 ∨ ((beg t).1 = 1 ∧ ((beg t).2 = 1 ∨ (beg t).2 = 2 ∨ (beg t).2 = 4 ∨ (beg t).2 = 8)) ∨ ((beg t).2 = 0 ∧ ((beg t).1 = 2 ∨ (beg t).1 = 3 ∨ (beg t).1 = 4 ∨ (beg t).1 = 5 ∨ (beg t).1 = 6 ∨ (beg t).1 = 7 ∨ (beg t).1 = 8)) ∨ ((beg t).2 = 0 ∧ (beg t).1 = 9 ∧ isName t = true) := by
  unfold beg
  by_cases h0 : t = ⟨#[117, 56]⟩
  · rw [if_pos h0]; exact .inr (.inl ⟨rfl, by decide⟩)
  rw [if_neg h0]
  by_cases h1 : t = ⟨#[117, 49, 54]⟩
  · rw [if_pos h1]; exact .inr (.inl ⟨rfl, by decide⟩)
  rw [if_neg h1]
  by_cases h2 : t = ⟨#[117, 51, 50]⟩
  · rw [if_pos h2]; exact .inr (.inl ⟨rfl, by decide⟩)
  rw [if_neg h2]
  by_cases h3 : t = ⟨#[117, 54, 52]⟩
  · rw [if_pos h3]; exact .inr (.inl ⟨rfl, by decide⟩)
  rw [if_neg h3]
  by_cases h4 : t = ⟨#[98, 111, 111, 108]⟩
  · rw [if_pos h4]; exact .inr (.inr (.inl ⟨rfl, by decide⟩))
  rw [if_neg h4]
  by_cases h5 : t = ⟨#[118, 97, 114, 105, 110, 116]⟩
  · rw [if_pos h5]; exact .inr (.inr (.inl ⟨rfl, by decide⟩))
  rw [if_neg h5]
  by_cases h6 : t = ⟨#[118, 101, 99, 116, 111, 114]⟩
  · rw [if_pos h6]; exact .inr (.inr (.inl ⟨rfl, by decide⟩))
  rw [if_neg h6]
  by_cases h7 : t = ⟨#[108, 105, 115, 116]⟩
  · rw [if_pos h7]; exact .inr (.inr (.inl ⟨rfl, by decide⟩))
  rw [if_neg h7]
  by_cases h8 : t = ⟨#[111, 112, 116, 105, 111, 110]⟩
  · rw [if_pos h8]; exact .inr (.inr (.inl ⟨rfl, by decide⟩))
  rw [if_neg h8]
  by_cases h9 : t = ⟨#[117, 110, 105, 111, 110]⟩
  · rw [if_pos h9]; exact .inr (.inr (.inl ⟨rfl, by decide⟩))
  rw [if_neg h9]
  by_cases h10 : t = ⟨#[115, 116, 114, 117, 99, 116]⟩
  · rw [if_pos h10]; exact .inr (.inr (.inl ⟨rfl, by decide⟩))
  rw [if_neg h10]
  by_cases hn : isName t = true
  · rw [if_pos hn]; exact .inr (.inr (.inr ⟨rfl, rfl, hn⟩))
  · rw [if_neg hn]; exact .inl rfl
section
variable (qs : List Q)
theorem part_inv {sub : Nd → Nat → PR (List Nd × Nat)} {x : Nd} {c i : Nat} {r : List Nd × Nat} (h : partP qs sub x (decide (c < 64)) i = .ok r) : c < 64 ∧ ∃ i1, sub x i1 = .ok r := by
  unfold partP at h
  by_cases hc : c < 64
  · rw [if_pos (by simpa using hc)] at h
    obtain ⟨i1, -, e⟩ := bnd_inv h
    exact ⟨hc, i1, e⟩
  · rw [if_neg (by simpa using hc)] at h
    cases h
theorem arm_c {f : Nat} (HQ : ∀ i, isNum (qAt qs i) = true → numB (qAt qs i).n = true) (ih : NodeC qs f) (c i : Nat) (M : List Nd) (j : Nat) (h : armP qs (nodeP qs f) c i = .ok (M, j)) : c < 64 ∧ Eats M 7 f 1 := by
  unfold armP at h
  obtain ⟨i1, e1, e⟩ := bnd_inv h
  obtain ⟨hn, -⟩ := tak_inv qs e1
  obtain ⟨hc, i2, e2⟩ := part_inv qs e
  exact ⟨hc, ih _ _ _ _ 7 e2 ⟨rfl, rfl, by show nameOk ⟨#[]⟩ false = true; decide, .inr ⟨rfl, HQ i hn⟩⟩⟩
theorem field_c {f : Nat} (ih : NodeC qs f) (c i : Nat) (M : List Nd) (j : Nat) (h : fieldP qs (nodeP qs f) c i = .ok (M, j)) : c < 64 ∧ Eats M 8 f 1 := by
  unfold fieldP at h
  obtain ⟨i1, e1, e⟩ := bnd_inv h
  obtain ⟨hn, -⟩ := tak_inv qs e1
  obtain ⟨hc, i2, e2⟩ := part_inv qs e
  exact ⟨hc, ih _ _ _ _ 8 e2 ⟨rfl, rfl, hn, .inl rfl⟩⟩
theorem ok_pair {α β : Type} {a c : α} {b d : β} (h : (Except.ok (a, b) : PR (α × β)) = .ok (c, d)) : a = c ∧ b = d := by
  injection h with h
  injection h with h1 h2
  exact ⟨h1, h2⟩
theorem node_c (HQ : ∀ i, isNum (qAt qs i) = true → numB (qAt qs i).n = true) : ∀ f, NodeC qs f := by
  intro f
  induction f with
  | zero =>
    intro x i M j o h hx
    unfold nodeP at h
    split at h <;> cases h
  | succ f ih =>
    rintro ⟨xk, xn, xnm, xl, xt, xkd, xa⟩ i M j o h ⟨hnm, hkd, hl, ht⟩
    simp only at hnm hkd hl ht
    subst hnm hkd
    unfold nodeP at h
    have hb := beg_cases (qAt qs i).t
    generalize hB : beg (qAt qs i).t = B at h hb
    obtain ⟨k, n⟩ := B
    simp only at h hb
    have hk0 : ¬ k = 0 := fun e => by rw [if_pos e] at h; cases h
    rw [if_neg hk0] at h
    unfold bodyP at h
    simp only at h
    rcases hb with hb | ⟨rfl, hn⟩ | ⟨rfl, hk⟩ | ⟨rfl, rfl, hnm⟩
    · exact absurd hb hk0
    · simp at h
      obtain ⟨rfl, -⟩ := h
      refine Eats.leaf rfl (fun dp hd => nde_ok (by omega) (by decide) ?_ (by decide) hl ht)
      rcases hn with rfl | rfl | rfl | rfl <;> decide
    · rcases hk with rfl | rfl | rfl | rfl | rfl | rfl | rfl
      · simp at h
        obtain ⟨rfl, -⟩ := h
        exact Eats.leaf rfl (fun dp hd => nde_ok (by omega) (by decide) (by decide) (by decide) hl ht)
      · simp at h
        obtain ⟨rfl, -⟩ := h
        exact Eats.leaf rfl (fun dp hd => nde_ok (by omega) (by decide) (by decide) (by decide) hl ht)
      · rw [if_neg (by decide), if_pos (by decide)] at h
        obtain ⟨⟨M', num, j'⟩, e1, e2⟩ := bnd_inv h
        obtain ⟨rfl, -⟩ := ok_pair e2
        unfold itemsP at e1
        obtain ⟨i1, -, e1⟩ := bnd_inv e1
        obtain ⟨⟨M2, j2⟩, g2, e1⟩ := bnd_inv e1
        obtain ⟨i3, -, e1⟩ := bnd_inv e1
        obtain ⟨i4, g4, e1⟩ := bnd_inv e1
        obtain ⟨i5, -, e1⟩ := bnd_inv e1
        obtain ⟨q1, q2⟩ := ok_pair e1
        obtain ⟨q3, -⟩ := Prod.mk.inj q2
        subst q1 q3
        have hq := HQ _ (tak_inv qs g4).1
        exact Eats.over (c := 1) rfl (by decide) (fun dp hd => nde_ok (by omega) (by decide) (by unfold kindOk; simp [hq]) (by decide) hl ht) (ih _ _ _ _ _ g2 ⟨rfl, rfl, by show nameOk ⟨#[]⟩ false = true; decide, .inl rfl⟩)
      · rw [if_neg (by decide), if_pos (by decide)] at h
        obtain ⟨⟨M', num, j'⟩, e1, e2⟩ := bnd_inv h
        obtain ⟨rfl, -⟩ := ok_pair e2
        unfold itemsP at e1
        obtain ⟨i1, -, e1⟩ := bnd_inv e1
        obtain ⟨⟨M2, j2⟩, g2, e1⟩ := bnd_inv e1
        obtain ⟨i3, -, e1⟩ := bnd_inv e1
        obtain ⟨i4, g4, e1⟩ := bnd_inv e1
        obtain ⟨i5, -, e1⟩ := bnd_inv e1
        obtain ⟨q1, q2⟩ := ok_pair e1
        obtain ⟨q3, -⟩ := Prod.mk.inj q2
        subst q1 q3
        have hq := HQ _ (tak_inv qs g4).1
        exact Eats.over (c := 1) rfl (by decide) (fun dp hd => nde_ok (by omega) (by decide) (by unfold kindOk; simp [hq]) (by decide) hl ht) (ih _ _ _ _ _ g2 ⟨rfl, rfl, by show nameOk ⟨#[]⟩ false = true; decide, .inl rfl⟩)
      · rw [if_neg (by decide), if_neg (by decide), if_pos (by decide)] at h
        obtain ⟨⟨M', j'⟩, e1, e2⟩ := bnd_inv h
        obtain ⟨rfl, -⟩ := ok_pair e2
        unfold optionP at e1
        obtain ⟨i1, -, e1⟩ := bnd_inv e1
        obtain ⟨⟨M2, j2⟩, g2, e1⟩ := bnd_inv e1
        obtain ⟨i3, -, e1⟩ := bnd_inv e1
        obtain ⟨rfl, -⟩ := ok_pair e1
        exact Eats.over (c := 1) rfl (by decide) (fun dp hd => nde_ok (by omega) (by decide) (by decide) (by decide) hl ht) (ih _ _ _ _ _ g2 ⟨rfl, rfl, by show nameOk ⟨#[]⟩ false = true; decide, .inl rfl⟩)
      · rw [if_neg (by decide), if_neg (by decide), if_neg (by decide), if_pos (by decide)] at h
        obtain ⟨⟨M', c, j'⟩, e1, e2⟩ := bnd_inv h
        obtain ⟨rfl, -⟩ := ok_pair e2
        obtain ⟨h1, h2, h3⟩ := parts_c qs (arm_c qs HQ ih) e1
        exact Eats.over (x := ⟨7, 0, ⟨#[]⟩, xl, xt, (c : Int), xa⟩) (c := c) rfl (by omega) (fun dp hd => nde_ok (by omega) (by omega) (by unfold kindOk; simp; omega) (by decide) hl ht) h3
      · rw [if_neg (by decide), if_neg (by decide), if_neg (by decide), if_neg (by decide), if_pos (by decide)] at h
        obtain ⟨⟨M', c, j'⟩, e1, e2⟩ := bnd_inv h
        obtain ⟨rfl, -⟩ := ok_pair e2
        obtain ⟨h1, h2, h3⟩ := parts_c qs (field_c qs ih) e1
        exact Eats.over (x := ⟨8, 0, ⟨#[]⟩, xl, xt, (c : Int), xa⟩) (c := c) rfl (by omega) (fun dp hd => nde_ok (by omega) (by omega) (by unfold kindOk; simp; omega) (by decide) hl ht) h3
    · rw [if_pos (by decide)] at h
      obtain ⟨rfl, -⟩ := ok_pair h
      exact Eats.leaf rfl (fun dp hd => nde_ok (by omega) (by decide) (by decide) hnm hl ht)
theorem def_c (HQ : ∀ i, isNum (qAt qs i) = true → numB (qAt qs i).n = true) {i j : Nat} {d : Df} (h : defP qs i = .ok (d, j)) : isName d.name = true ∧ ct d.ty 0 [(0, 1)] = (0, 0) := by
  unfold defP at h
  obtain ⟨i1, g1, h⟩ := bnd_inv h
  obtain ⟨i2, -, h⟩ := bnd_inv h
  obtain ⟨⟨M, j3⟩, g3, h⟩ := bnd_inv h
  obtain ⟨i4, -, h⟩ := bnd_inv h
  obtain ⟨rfl, -⟩ := ok_pair h
  refine ⟨(tak_inv qs g1).1, ?_⟩
  have h := node_c qs HQ 17 _ _ _ _ 0 g3 ⟨rfl, rfl, by show nameOk ⟨#[]⟩ false = true; decide, .inl rfl⟩ [] 1 [] 0 (by decide) (by decide)
  rw [List.append_nil] at h
  exact h
theorem src_c (HQ : ∀ i, isNum (qAt qs i) = true → numB (qAt qs i).n = true) : ∀ (f : Nat) (D : List Df) (i : Nat) (D' : List Df), srcP qs f D i = .ok D' → (∀ d ∈ D, isName d.name = true ∧ ct d.ty 0 [(0, 1)] = (0, 0)) → f + D.length = 257 → D.length ≤ 256 → D'.length ≤ 256 ∧ ∀ d ∈ D', isName d.name = true ∧ ct d.ty 0 [(0, 1)] = (0, 0)
  | 0, D, i, D', h, _, _, _ => by cases h
  | f + 1, D, i, D', h, hD, hf, hl => by
    unfold srcP at h
    by_cases hi : i < qs.length
    · rw [if_pos hi] at h
      obtain ⟨i1, -, h⟩ := bnd_inv h
      by_cases h0 : f = 0
      · rw [if_pos h0] at h; cases h
      rw [if_neg h0] at h
      obtain ⟨⟨d, j⟩, g, h⟩ := bnd_inv h
      refine src_c HQ f _ _ _ h (fun e he => ?_) (by simp; omega) (by simp; omega)
      rcases List.mem_append.1 he with he | he
      · exact hD e he
      · simp at he
        subst he
        exact def_c qs HQ g
    · rw [if_neg hi] at h
      injection h with h
      subst h
      exact ⟨hl, hD⟩
end
theorem ckL_ok : ∀ (D : List Df) (i : Nat), (∀ d ∈ D, isName d.name = true ∧ ct d.ty 0 [(0, 1)] = (0, 0)) → ckL D i = (0, 0, 0)
  | [], i, h => rfl
  | d :: D, i, h => by
    obtain ⟨h1, h2⟩ := h d (.head _)
    rw [ckL, if_neg (by rw [h1]; decide), h2, if_pos rfl]
    exact ckL_ok D (i + 1) (fun e he => h e (.tail _ he))
end Go.Proofs.YtafljgjkcnbhbaaDoor

/- What is parsed, Check takes; plain: sources. -/
namespace Go.Proofs.YtafljgjkcnbhbaaDoor
open Go.RowKit
set_option linter.unusedVariables false

theorem tkW_num {w : List UInt8} (h : Tw w) (p : Nat) (hk : (tkW w p).k = 2) : numB (tkW w p).n = true := by
  obtain ⟨c, r, rfl, hc, hr, he⟩ := h
  unfold tkW at hk ⊢
  simp only at hk ⊢
  cases hl : letter c with
  | true => rw [hl] at hk; simp at hk
  | false =>
    cases hd : digit c with
    | false => rw [hl, hd] at hk; simp at hk
    | true =>
      unfold erW at he
      simp only at he
      rw [hl, hd] at he
      have h1 : numOk (c :: r) = true := by
        cases h : numOk (c :: r) with
        | true => rfl
        | false => rw [h] at he; simp at he
      have h2 := (of_decide_eq_true h1).2
      simp only [Bool.false_eq_true, if_false, if_true]
      exact decide_eq_true ⟨by omega, by omega⟩
theorem cut_nums (l : List UInt8) (p : Nat) : ∀ t ∈ (cut l p).1, t.k = 2 → numB t.n = true := by
  refine cut_ind (fun l p => ∀ t ∈ (cut l p).1, t.k = 2 → numB t.n = true) ?_ ?_ ?_ ?_ ?_ ?_ l p
  · intro p; simp [cut_nil]
  · intro c r p hb ih; rw [cut_blank r p hb]; exact ih
  · intro c r p hs h2; rw [cut_end p hs h2]; simp
  · intro c r d s p hs h2 h3 ih; rw [cut_rem p hs h2 h3]; exact ih
  · intro c r p hb hs he; rw [cut_bad r p hb hs he]; simp
  · intro w s p hw ho ih
    rw [cut_word hw ho p]
    unfold app
    split
    · intro t ht
      simp only [List.mem_cons] at ht
      rcases ht with rfl | ht
      · exact tkW_num hw p
      · exact ih t ht
    · exact ih
theorem cutT_nums (s : ByteArray) : ∀ t ∈ (cutT s).1, t.k = 2 → numB t.n = true := by
  unfold cutT
  split
  · intro t ht; cases ht
  · exact cut_nums _ _
theorem cutT_hq (s : ByteArray) (i : Nat) (h : isNum (qAt ((cutT s).1.map core) i) = true) : numB (qAt ((cutT s).1.map core) i).n = true := by
  unfold qAt at h ⊢
  by_cases hi : i < ((cutT s).1.map core).length
  · have e : ((cutT s).1.map core).getD i q0 = core ((cutT s).1[i]'(by simpa using hi)) := by simp [List.getD, List.getElem?_map, List.getElem?_eq_getElem (show i < (cutT s).1.length by simpa using hi)]
    rw [e] at h ⊢
    exact cutT_nums s _ (List.getElem_mem _) (of_decide_eq_true h)
  · have e : ((cutT s).1.map core).getD i q0 = q0 := by simp [List.getD, List.getElem?_eq_none (show ((cutT s).1.map core).length ≤ i by omega)]
    rw [e] at h
    cases h
theorem ct_places (ts : List Tk) (L : Nat) : ∀ (N : List Nd) (i : Nat) (S : List (Int × Int)), ct (N.map (ndP ts L)) i S = ct N i S
  | [], i, S => rfl
  | x :: N, i, S => by
    have e1 : ctE S (ndP ts L x) = ctE S x := rfl
    have e2 : ctS S (ndP ts L x) = ctS S x := rfl
    rw [List.map_cons, ct, ct, e1, e2, ct_places ts L N]
theorem prs_check {s : ByteArray} (h : (prsT s).2.1 = 0) : ckP (prsT s).1 = (0, 0, 0) := by
  unfold prsT at h ⊢
  by_cases h0 : (cutT s).2.1 = 0
  · rw [if_pos h0] at h ⊢
    unfold prsP at h ⊢
    cases hs : srcP ((cutT s).1.map core) 257 [] 0 with
    | error e => rw [hs] at h; unfold ckP; simp [ckL]
    | ok D =>
      simp only
      obtain ⟨h1, h2⟩ := src_c _ (cutT_hq s) 257 [] 0 D hs (fun d hd => by cases hd) (by decide) (by decide)
      unfold ckP
      rw [if_neg (by rw [List.length_map]; omega)]
      refine ckL_ok _ _ (fun d hd => ?_)
      obtain ⟨e, he, rfl⟩ := List.mem_map.1 hd
      obtain ⟨g1, g2⟩ := h2 e he
      exact ⟨g1, by show ct (e.ty.map _) 0 _ = _; rw [ct_places]; exact g2⟩
  · rw [if_neg h0] at h
    exact absurd h h0
end Go.Proofs.YtafljgjkcnbhbaaDoor
