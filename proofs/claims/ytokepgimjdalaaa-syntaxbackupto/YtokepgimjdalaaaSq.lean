/- first. -/
import Derived.Test.YtokepgimjdalaaaSp
namespace Go.Proofs.Ytokepgimjdalaaa
open Go.RowKit
set_option linter.unusedVariables false

theorem ex1 : prsT ⟨#[116, 121, 112, 101, 32, 111, 61, 117, 110, 105, 111, 110, 123, 51, 58, 98, 111, 111, 108, 44, 48, 58, 111, 112, 116, 105, 111, 110, 60, 118, 97, 114, 105, 110, 116, 62, 125, 59]⟩ = ([⟨⟨#[111]⟩, 5, [⟨7, 0, ⟨#[]⟩, ⟨#[]⟩, 0, 2, 7⟩, ⟨2, 0, ⟨#[]⟩, ⟨#[]⟩, 3, 0, 13⟩, ⟨6, 0, ⟨#[]⟩, ⟨#[]⟩, 0, 1, 20⟩, ⟨3, 0, ⟨#[]⟩, ⟨#[]⟩, 0, 0, 29⟩]⟩], 0, 0) := by rfl
theorem ex2 : prsT ⟨#[116, 121, 112, 101, 32, 97, 32, 61, 32, 115, 116, 114, 117, 99, 116, 32, 123, 125, 59]⟩ = ([], 60, 17) := by rfl
/-! ### What lies in a source -/
theorem cellsN_at : ∀ (N : List Nd) (i j : Nat) (x : Nd), N[i]? = some x → j < 7 → (cellsN N)[i * 7 + j]? = (ndc x)[j]?
  | [], i, j, x, h, _ => by simp at h
  | y :: N, 0, j, x, h, hj => by
    simp at h
    subst h
    have e : cellsN (y :: N) = ndc y ++ cellsN N := by simp [cellsN]
    rw [e, List.getElem?_append_left (by rw [ndc_len]; omega)]
    simp
  | y :: N, i + 1, j, x, h, hj => by
    have ih := cellsN_at N i j x (by simpa using h) hj
    have e : cellsN (y :: N) = ndc y ++ cellsN N := by simp [cellsN]
    rw [e, List.getElem?_append_right (by rw [ndc_len]; omega)]
    rw [show (i + 1) * 7 + j - (ndc y).length = i * 7 + j by rw [ndc_len]; omega, ih]
theorem cellsD_at : ∀ (D : List Df) (vs : List Value) (i j : Nat) (d : Df) (v : Value), D[i]? = some d → vs[i]? = some v → j < 3 → (cellsD D vs)[i * 3 + j]? = (dfc d v)[j]?
  | [], _, i, j, d, v, h, _, _ => by simp at h
  | _ :: _, [], i, j, d, v, _, h, _ => by simp at h
  | y :: D, u :: vs, 0, j, d, v, h, hv, hj => by
    simp at h hv
    subst h hv
    rw [cellsD, List.getElem?_append_left (by simp [dfc]; omega)]
    simp
  | y :: D, u :: vs, i + 1, j, d, v, h, hv, hj => by
    have ih := cellsD_at D vs i j d v (by simpa using h) (by simpa using hv) hj
    rw [cellsD, List.getElem?_append_right (by simp [dfc]; omega)]
    rw [show (i + 1) * 3 + j - (dfc y u).length = i * 3 + j by simp [dfc]; omega, ih]
/-- A row of nodes lies here. -/
def NRow (w : World) (a : Option Addr) (N : List Nd) : Prop :=
  N = [] ∨ ∃ b off, a = some ⟨b, off, none⟩ ∧ b < w.heap.size ∧ ∀ (i : Nat) (x : Nd), N[i]? = some x → ∀ j, j < 7 → w.cell? ⟨b, off + i * 7 + j, none⟩ = (ndc x)[j]?
/-- A row of definitions lies here, with their nodes. -/
def DRow (w : World) (a : Option Addr) (D : List Df) : Prop :=
  D = [] ∨ ∃ b off, a = some ⟨b, off, none⟩ ∧ b < w.heap.size ∧ ∀ (i : Nat) (d : Df), D[i]? = some d → ∃ va vc, (∀ j, j < 3 → w.cell? ⟨b, off + i * 3 + j, none⟩ = (dfc d (.slice va d.ty.length vc))[j]?) ∧ d.ty.length ≤ vc ∧ (va = none → vc = 0) ∧ NRow w va d.ty
theorem NRow.later {w w' : World} {a : Option Addr} {N : List Nd} (h : NRow w a N) (hB : Below w.heap.size w w') : NRow w' a N := by
  rcases h with h | ⟨b, off, rfl, hb, hc⟩
  · exact .inl h
  · exact .inr ⟨b, off, rfl, Nat.lt_of_lt_of_le hb hB.size, fun i x hx j hj => (hB.cell (p := ⟨b, off + i * 7 + j, none⟩) hb).trans (hc i x hx j hj)⟩
theorem DRow.later {w w' : World} {a : Option Addr} {D : List Df} (h : DRow w a D) (hB : Below w.heap.size w w') : DRow w' a D := by
  rcases h with h | ⟨b, off, rfl, hb, hc⟩
  · exact .inl h
  · refine .inr ⟨b, off, rfl, Nat.lt_of_lt_of_le hb hB.size, fun i d hd => ?_⟩
    obtain ⟨va, vc, h1, h2, h4, h3⟩ := hc i d hd
    exact ⟨va, vc, fun j hj => (hB.cell (p := ⟨b, off + i * 3 + j, none⟩) hb).trans (h1 j hj), h2, h4, h3.later hB⟩
theorem NRow.open {w : World} {a : Option Addr} {N : List Nd} (h : NRow w a N) (hl : 0 < N.length) : ∃ b off, a = some ⟨b, off, none⟩ ∧ b < w.heap.size ∧ ∀ (i : Nat) (x : Nd), N[i]? = some x → ∀ j, j < 7 → w.cell? ⟨b, off + i * 7 + j, none⟩ = (ndc x)[j]? := by
  rcases h with rfl | h
  · simp at hl
  · exact h
theorem DRow.open {w : World} {a : Option Addr} {D : List Df} (h : DRow w a D) (hl : 0 < D.length) : ∃ b off, a = some ⟨b, off, none⟩ ∧ b < w.heap.size ∧ ∀ (i : Nat) (d : Df), D[i]? = some d → ∃ va vc, (∀ j, j < 3 → w.cell? ⟨b, off + i * 3 + j, none⟩ = (dfc d (.slice va d.ty.length vc))[j]?) ∧ d.ty.length ≤ vc ∧ (va = none → vc = 0) ∧ NRow w va d.ty := by
  rcases h with rfl | h
  · simp at hl
  · exact h
theorem own_nrow {w : World} {B : Nat} {v : Value} {N : List Nd} (h : w.ownsRow B 40 7 v N.length (cellsN N)) : ∃ a cap, v = .slice a N.length cap ∧ N.length ≤ cap ∧ (a = none → cap = 0) ∧ NRow w a N := by
  rcases Nat.eq_zero_or_pos N.length with h0 | h0
  · have hN : N = [] := List.eq_nil_of_length_eq_zero h0
    subst hN
    rcases h.2 with ⟨rfl, _⟩ | ⟨g, cap, cur, rfl, hb, hg, hnc, _⟩
    · exact ⟨none, 0, rfl, Nat.le_refl _, fun _ => rfl, .inl rfl⟩
    · exact ⟨_, cap, rfl, by simp, fun h => (by cases h), .inr ⟨g, 0, rfl, (Array.getElem?_eq_some_iff.1 hg).1, fun i x hx => by simp at hx⟩⟩
  · obtain ⟨g, cap, ys, rfl, hb, hn, hm, hl, ht, hK⟩ := ownS_blk h h0
    refine ⟨_, cap, rfl, hn, fun h => (by cases h), .inr ⟨g, 0, rfl, hK.lt, fun i x hx j hj => ?_⟩⟩
    have hi := (List.getElem?_eq_some_iff.1 hx).1
    rw [hK.cell, ← cellsN_at N i j x hx hj, ← ht, List.getElem?_take, if_pos (by omega), Nat.zero_add]
theorem Src.row {w : World} {B : Nat} {vd : Value} {D : List Df} {vs : List Value} (h : Src w B vd D vs) : ∃ a cap, vd = .slice a D.length cap ∧ D.length ≤ cap ∧ DRow w a D := by
  rcases Nat.eq_zero_or_pos D.length with h0 | h0
  · have hN : D = [] := List.eq_nil_of_length_eq_zero h0
    subst hN
    rcases h.2.1.2 with ⟨rfl, _⟩ | ⟨g, cap, cur, rfl, hb, hg, hnc, _⟩
    · exact ⟨none, 0, rfl, Nat.le_refl _, .inl rfl⟩
    · exact ⟨_, cap, rfl, by simp, .inr ⟨g, 0, rfl, (Array.getElem?_eq_some_iff.1 hg).1, fun i x hx => by simp at hx⟩⟩
  · obtain ⟨g, cap, ys, rfl, hb, hn, hm, hl, ht, hK⟩ := ownS_blk h.2.1 h0
    refine ⟨_, cap, rfl, hn, .inr ⟨g, 0, rfl, hK.lt, fun i d hd => ?_⟩⟩
    have hi := (List.getElem?_eq_some_iff.1 hd).1
    have hv : vs[i]? = some (vs[i]'(by rw [h.1]; exact hi)) := List.getElem?_eq_getElem _
    obtain ⟨va, vc, hva, hvc, hvn, hr⟩ := own_nrow (h.2.2.1 i d _ hd hv)
    refine ⟨va, vc, fun j hj => ?_, hvc, hvn, hr⟩
    rw [hva] at hv
    rw [hK.cell, ← cellsD_at D vs i j d _ hd hv hj, ← ht, List.getElem?_take, if_pos (by omega), Nat.zero_add]
set_option maxRecDepth 100000 in
set_option maxHeartbeats 4000000 in
theorem check_u8 (gd : Nat) (va : Value) (w : World) (hK : Hid (Blk w gd 38 [.string ⟨#[117, 56]⟩, .int .i64 0, va])) (hsl : ∃ a n c, va = .slice a n c) :
    Calls Try.prog 11 #[.agg #[.slice (some ⟨gd, 0, none⟩) 1 1]] w fun e w' => e = .returned (.tuple #[.int .i64 0, .int .i64 0, .int .i64 62]) ∧ Below w.heap.size w w' := by
  have HK1 := hide_ (hK.out.alloc (.cells #[.slice (some ⟨gd, 0, none⟩) 1 1] 25))
  have nm : isName ⟨#[117, 56]⟩ = false := by decide
  go_enter Try.func11, Try.ntmps11
  go_wp2_with fail
  go_loopw [16] (fun i wr => i = .int .i64 0 ∧ w.alloc (.cells #[.slice (some ⟨gd, 0, none⟩) 1 1] 25) = wr) (fun _ _ => 0)
  case atStart => exact ⟨rfl, rfl⟩
  case round =>
    obtain ⟨rfl, rfl⟩ := hrel
    obtain ⟨wq, hwq⟩ : ∃ wq, wq = w.alloc (.cells #[.slice (some ⟨gd, 0, none⟩) 1 1] 25) := ⟨_, rfl⟩
    have HB : Hid (Below w.heap.size w wq) := by rw [hwq]; exact (Below.refl _ _).alloc (Nat.le_refl _) _
    rw [← hwq] at HK1 ⊢
    clear hwq
    have c0 := HK1.out.cell 0; have c1 := HK1.out.cell 1; have c2 := HK1.out.cell 2
    simp at c0 c1 c2
    have hva : ∃ a n c, va = .slice a n c := hsl
    obtain ⟨a, n, c, rfl⟩ := hva
    go_wp2_with (go_at_call 21; refine (name_any _ _).mono ?_; rintro e w' ⟨rfl, rfl⟩; rw [nm])
    go_ret3
    exact ⟨rfl, (HB.out.alloc HB.out.size _)⟩
end Go.Proofs.Ytokepgimjdalaaa
