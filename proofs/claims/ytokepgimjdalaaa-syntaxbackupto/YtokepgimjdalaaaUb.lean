/- Lists copied; how many nodes there are, plain. -/
import Derived.Test.YtokepgimjdalaaaUa
import Derived.Maps.AppendAt
import Derived.Laws.OwnMore
namespace Go.Proofs.Ytokepgimjdalaaa
open Go.RowKit
set_option linter.unusedVariables false

theorem tak_lt {qs : List Q} {m : Q → Bool} {i j : Nat} (hm : m q0 = false) (h : tak qs m i = .ok j) : i < qs.length := by
  have h1 := (tak_ok h).2
  rcases Nat.lt_or_ge i qs.length with h2 | h2
  · exact h2
  · rw [show qAt qs i = q0 by unfold qAt; simp [List.getD, h2], hm] at h1
    cases h1
section
variable {qs : List Q}
def SubLen (sub : Nd → Nat → PR (List Nd × Nat)) : Prop := ∀ x i N j, sub x i = .ok (N, j) → i + N.length ≤ j
theorem part_len {sub : Nd → Nat → PR (List Nd × Nat)} (h : SubLen sub) {x : Nd} {b : Bool} {i j : Nat} {N : List Nd} (hp : partP qs sub x b i = .ok (N, j)) : i + 1 + N.length ≤ j := by
  unfold partP at hp
  split at hp
  · obtain ⟨a, h1, h2⟩ := bnd_is hp
    have := (tak_ok (by simpa only [txt] using h1)).1
    have := h _ _ _ _ h2
    omega
  · cases hp
theorem arm_len {sub : Nd → Nat → PR (List Nd × Nat)} (h : SubLen sub) {c i j : Nat} {N : List Nd} (hp : armP qs sub c i = .ok (N, j)) : i + N.length ≤ j := by
  unfold armP at hp
  obtain ⟨a, h1, h2⟩ := bnd_is hp
  have := (tak_ok h1).1
  have := part_len h h2
  omega
theorem field_len {sub : Nd → Nat → PR (List Nd × Nat)} (h : SubLen sub) {c i j : Nat} {N : List Nd} (hp : fieldP qs sub c i = .ok (N, j)) : i + N.length ≤ j := by
  unfold fieldP at hp
  obtain ⟨a, h1, h2⟩ := bnd_is hp
  have := (tak_ok h1).1
  have := part_len h h2
  omega
theorem more_len {one : Nat → Nat → PR (List Nd × Nat)} (h : ∀ c i N j, one c i = .ok (N, j) → i + N.length ≤ j) : ∀ (f c : Nat) (N : List Nd) (i : Nat) (N' : List Nd) (c' j : Nat), moreP qs one f c N i = .ok (N', c', j) → i + N'.length ≤ j + N.length
  | 0, c, N, i, N', c', j, hp => by cases hp
  | f + 1, c, N, i, N', c', j, hp => by
    unfold moreP at hp
    split at hp
    · obtain ⟨⟨M, k⟩, h1, h2⟩ := bnd_is hp
      have h3 := h _ _ _ _ h1
      have h4 := more_len h f (c + 1) (N ++ M) k N' c' j h2
      simp at h4
      omega
    · obtain ⟨k, h1, h2⟩ := bnd_is hp
      have h3 := (tak_ok (by simpa only [txt] using h1)).1
      injection h2 with h2
      injection h2 with h4 h5
      injection h5 with h5 h6
      subst h4 h6
      omega
theorem parts_len {one : Nat → Nat → PR (List Nd × Nat)} (h : ∀ c i N j, one c i = .ok (N, j) → i + N.length ≤ j) {i : Nat} {N : List Nd} {c j : Nat} (hp : partsP qs one i = .ok (N, c, j)) : i + 1 + N.length ≤ j := by
  unfold partsP at hp
  obtain ⟨a, h1, h2⟩ := bnd_is hp
  have := (tak_ok (by simpa only [txt] using h1)).1
  obtain ⟨⟨M, k⟩, h3, h4⟩ := bnd_is h2
  have := h _ _ _ _ h3
  have := more_len h _ _ _ _ _ _ _ h4
  simp only at this
  omega
theorem node_len : ∀ f, SubLen (nodeP qs f) := by
  intro f
  induction f with
  | zero =>
    intro x i N j h
    unfold nodeP at h
    split at h <;> cases h
  | succ f ih =>
    intro x i N j h
    unfold nodeP at h
    split at h
    · cases h
    unfold bodyP at h
    split at h
    · injection h with h
      injection h with h1 h2
      subst h1 h2
      simp
    split at h
    · obtain ⟨⟨M, n, k⟩, h1, h2⟩ := bnd_is h
      injection h2 with h2
      injection h2 with h3 h4
      subst h3 h4
      unfold itemsP at h1
      obtain ⟨a1, e1, h1⟩ := bnd_is h1
      obtain ⟨⟨M2, a2⟩, e2, h1⟩ := bnd_is h1
      obtain ⟨a3, e3, h1⟩ := bnd_is h1
      obtain ⟨a4, e4, h1⟩ := bnd_is h1
      obtain ⟨a5, e5, h1⟩ := bnd_is h1
      injection h1 with h1
      injection h1 with h5 h6
      injection h6 with h6 h7
      subst h5 h7
      have := (tak_ok (by simpa only [txt] using e1)).1
      have := ih _ _ _ _ e2
      have := (tak_ok (by simpa only [txt] using e3)).1
      have := (tak_ok e4).1
      have := (tak_ok (by simpa only [txt] using e5)).1
      simp at *
      omega
    split at h
    · obtain ⟨⟨M, k⟩, h1, h2⟩ := bnd_is h
      injection h2 with h2
      injection h2 with h3 h4
      subst h3 h4
      unfold optionP at h1
      obtain ⟨a1, e1, h1⟩ := bnd_is h1
      obtain ⟨⟨M2, a2⟩, e2, h1⟩ := bnd_is h1
      obtain ⟨a3, e3, h1⟩ := bnd_is h1
      injection h1 with h1
      injection h1 with h5 h6
      subst h5 h6
      have := (tak_ok (by simpa only [txt] using e1)).1
      have := ih _ _ _ _ e2
      have := (tak_ok (by simpa only [txt] using e3)).1
      simp at *
      omega
    split at h
    · obtain ⟨⟨M, c, k⟩, h1, h2⟩ := bnd_is h
      injection h2 with h2
      injection h2 with h3 h4
      subst h3 h4
      have := parts_len (fun c i N j h => arm_len ih h) h1
      simp at *
      omega
    split at h
    · obtain ⟨⟨M, c, k⟩, h1, h2⟩ := bnd_is h
      injection h2 with h2
      injection h2 with h3 h4
      subst h3 h4
      have := parts_len (fun c i N j h => field_len ih h) h1
      simp at *
      omega
    · injection h with h
      injection h with h1 h2
      subst h1 h2
      simp
theorem def_len {i j : Nat} {d : Df} (h : defP qs i = .ok (d, j)) : d.ty.length ≤ qs.length := by
  unfold defP at h
  obtain ⟨a1, e1, h⟩ := bnd_is h
  obtain ⟨a2, e2, h⟩ := bnd_is h
  obtain ⟨⟨N, a3⟩, e3, h⟩ := bnd_is h
  obtain ⟨a4, e4, h⟩ := bnd_is h
  injection h with h
  injection h with h1 h2
  subst h1
  have h5 := node_len 17 _ _ _ _ e3
  have h6 := tak_lt (m := isT ⟨#[59]⟩) (by decide) (by simpa only [txt] using e4)
  simp only at h6 ⊢
  omega
theorem src_len : ∀ (f : Nat) (D : List Df) (i : Nat) (D' : List Df), srcP qs f D i = .ok D' → (∀ d ∈ D, d.ty.length ≤ qs.length) → ∀ d ∈ D', d.ty.length ≤ qs.length
  | 0, D, i, D', h, hD => by cases h
  | f + 1, D, i, D', h, hD => by
    unfold srcP at h
    split at h
    · obtain ⟨a1, e1, h⟩ := bnd_is h
      split at h
      · cases h
      obtain ⟨⟨d, j⟩, e2, h⟩ := bnd_is h
      refine src_len f _ _ D' h (fun x hx => ?_)
      rcases List.mem_append.1 hx with hx | hx
      · exact hD x hx
      · simp at hx; subst hx; exact def_len e2
    · injection h with h
      subst h
      exact hD
end
/-- Not too many of them. -/
def Small (D : List Df) : Prop := D.length ≤ 1000000 ∧ ∀ d ∈ D, d.ty.length ≤ 1000000
/-- What may be copied. -/
def Wt (D : List Df) : Prop := D.length ≤ 2932031007401 ∧ ∀ d ∈ D, d.ty.length ≤ 1954687338267
theorem Small.wt {D : List Df} (h : Small D) : Wt D := ⟨by have := h.1; omega, fun d hd => by have := h.2 d hd; omega⟩
theorem prs_small {s : ByteArray} (h : (prsT s).1.length ≤ 256) : Small (prsT s).1 := by
  refine ⟨by omega, fun d hd => ?_⟩
  by_cases hE : (cutT s).2.1 = 0
  · cases hr : srcP ((cutT s).1.map core) 257 [] 0 with
    | error e => rw [prs_err hE hr] at hd; simp at hd
    | ok D =>
      rw [prs_ok hE hr] at hd
      simp only [List.mem_map] at hd
      obtain ⟨d', hd', rfl⟩ := hd
      have h1 := src_len 257 [] 0 D hr (fun x hx => by simp at hx) d' hd'
      have h2 := cut_few s
      rw [List.length_map] at h1
      show (d'.ty.map _).length ≤ _
      rw [List.length_map]
      omega
  · rw [prs_bad hE] at hd; simp at hd
theorem cellsN_one' (N : List Nd) : ∀ u ∈ cellsN N, u.oneCell' = true := by
  intro u hu
  simp only [cellsN, List.mem_flatMap] at hu
  obtain ⟨x, _, hx⟩ := hu
  simp [ndc] at hx
  rcases hx with rfl | rfl | rfl | rfl | rfl | rfl | rfl <;> rfl
set_option maxRecDepth 100000 in
/-- append(nil, x...), x a row of nodes. -/
theorem run_copyN (w : World) (B : Nat) (a : Option Addr) (cap : Nat) (N : List Nd) (hr : NRow w a N) (hnil : a = none → cap = 0) (hl : N.length ≤ 1954687338268) (hB : B ≤ w.heap.size) :
    ∃ v' w', (Builtin.append_ #[36, 36] 36 #[.slice none 0 0, .slice a N.length cap]).run Try.prog w = .ok v' w' ∧ w'.ownsRow B 40 7 v' N.length (cellsN N) ∧ Below w.heap.size w w' ∧ (∀ k, v'.ownBlock = some k → w.heap.size ≤ k) := by
  have hinfo : (Try.prog.info? 40).map (fun i => (i.zero, i.size, i.bytes)) = some (some (.agg #[.int .i64 0, .int .i64 0, .string ⟨#[]⟩, .string ⟨#[]⟩, .int .i64 0, .int .i64 0, .int .i64 0]), 7, 72) := by kernel_rfl
  obtain ⟨i0, hi, hz0, hz1, hz2⟩ := info_parts hinfo
  rcases hr with rfl | ⟨b, off, rfl, hb, hc⟩
  · cases a with
    | none =>
      obtain rfl := hnil rfl
      exact ⟨_, w, run_append_owned_none (P := Try.prog) w w.heap.size 36 36 40 i0 7 Try.underlying36 hi (.slice none 0 0) 0 [] (World.ownsRow_nil _ _ _ _), World.ownsRow_nil _ _ _ _, Below.refl _ _, fun k hk => by cases hk⟩
    | some x =>
      obtain ⟨v', w', hrun, h2, h3, h4, h5⟩ := run_append_own_at (P := Try.prog) w w.heap.size 36 36 40 i0 _ 7 72 Try.underlying36 hi hz0 hz1 hz2 rfl (by decide) (.slice none 0 0) 0 [] (World.ownsRow_nil _ _ _ _) x 0 cap [] rfl (fun j u hj => by simp at hj) (fun u hu => by cases hu) (by unfold maxLen; omega) (by omega) (Nat.le_refl _)
      have hg := (Upd.refl (fun _ => False) w).grown h3 (fun k hk => by cases hk)
      simp only [List.append_nil, Nat.add_zero] at h2
      have h6 := own_base h2 hB
      have h7 := hg.below w.heap.size (Nat.le_refl _) (fun k hk => hk.elim)
      have h8 : ∀ k, v'.ownBlock = some k → w.heap.size ≤ k := fun k hk => (h2.lt k hk).1
      refine ⟨v', w', ?_, ?_, h7, h8⟩
      · simpa using hrun
      · simpa [cellsN] using h6
  · have hcell : ∀ j u, (cellsN N)[j]? = some u → w.cell? ((⟨b, off, none⟩ : Addr).add j) = some u := fun j u hj => by
      have hlt := (List.getElem?_eq_some_iff.1 hj).1
      rw [cellsN_len] at hlt
      have hi : j / 7 < N.length := by omega
      have hx : N[j / 7]? = some (N[j / 7]'hi) := List.getElem?_eq_getElem hi
      have h1 := hc (j / 7) _ hx (j % 7) (Nat.mod_lt _ (by decide))
      have h2 := cellsN_at N (j / 7) (j % 7) _ hx (Nat.mod_lt _ (by decide))
      have e : j / 7 * 7 + j % 7 = j := by omega
      rw [e] at h2
      rw [add_none, ← hj, h2, ← h1]
      congr 2
      omega
    obtain ⟨v', w', hrun, h2, h3, h4, h5⟩ := run_append_own_at (P := Try.prog) w w.heap.size 36 36 40 i0 _ 7 72 Try.underlying36 hi hz0 hz1 hz2 rfl (by decide) (.slice none 0 0) 0 [] (World.ownsRow_nil _ _ _ _) ⟨b, off, none⟩ N.length cap (cellsN N) (cellsN_len N) hcell (cellsN_one' N) (by unfold maxLen; omega) (by omega) (Nat.le_refl _)
    rw [Nat.zero_add, List.nil_append] at h2
    have hg := (Upd.refl (fun _ => False) w).grown h3 (fun k hk => by cases hk)
    exact ⟨v', w', hrun, own_base h2 hB, hg.below _ (Nat.le_refl _) (fun k hk => hk.elim), fun k hk => (h2.lt k hk).1⟩
end Go.Proofs.Ytokepgimjdalaaa
