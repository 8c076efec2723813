/- What the bound of an '..Upto' statement says of a source. -/
import Derived.Test.YtjeafblkmipdmaaRows
import Derived.Test.YtjeafblkmipdmaaRead
import Derived.Test.YtjeafblkmipdmaaBsn
import Derived.Test.YtjeafblkmipdmaaLt
namespace Go.Proofs.Ytjeafblkmipdmaa
open Go.ChangeShapes Go.WideShapes Go.ChangeAt Go.RowKit
set_option linter.unusedVariables false

section
variable {H : Type} {enc : TypeId × Value → H} {w : World} {base : Nat} {held : Bool}
theorem bulk_pos (d : DataW H) : 1 ≤ Rows.uptoBulk d := by
  cases d with
  | lit l => cases l <;> simp [Rows.uptoBulk]
  | nil => simp [Rows.uptoBulk]
  | ptr d => simp [Rows.uptoBulk]
  | slice a b => simp [Rows.uptoBulk]
  | agg a => simp [Rows.uptoBulk]
  | iface a d => simp [Rows.uptoBulk]
  | map a => simp [Rows.uptoBulk]
  | held a => simp [Rows.uptoBulk]
theorem bulk_mem {d : DataW H} : ∀ {l : List (DataW H)}, d ∈ l → Rows.uptoBulk d ≤ Rows.uptoBulkAll l
  | x :: r, h => by
    simp only [Rows.uptoBulkAll]
    rcases List.mem_cons.1 h with e | e
    · subst e; omega
    · have := bulk_mem e; omega
theorem bulk_two : ∀ {l : List (DataW H)}, (∀ d ∈ l, 2 ≤ Rows.uptoBulk d) → 2 * l.length ≤ Rows.uptoBulkAll l
  | [], _ => Nat.zero_le _
  | x :: r, h => by
    have h1 := h x List.mem_cons_self
    have h2 := bulk_two (l := r) (fun d hd => h d (List.mem_cons_of_mem _ hd))
    simp only [Rows.uptoBulkAll, List.length_cons]
    omega
theorem bulk_sum : ∀ {L : List Df} {G : List (DataW H)}, G.length = L.length → (∀ (i : Nat) (d : Df) (g : DataW H), L[i]? = some d → G[i]? = some g → 2 * (d.ty.length + 1) ≤ Rows.uptoBulk g) → 2 * sumN L ≤ Rows.uptoBulkAll G
  | [], G, _, _ => Nat.zero_le _
  | d :: L, [], hl, _ => by simp at hl
  | d :: L, g :: G, hl, h => by
    have h1 := h 0 d g rfl rfl
    have h2 := bulk_sum (L := L) (G := G) (by simpa using hl) (fun i d' g' hd hg => h (i + 1) d' g' (by simpa using hd) (by simpa using hg))
    simp only [Rows.uptoBulkAll, sumN]
    omega
theorem field_bulk {P : Program} {t : TypeId} {fs : Array Field} (ht : P.underlying t = some (.struct fs)) {fuel : Nat} {cs : List Value} {y : DataW H × List MemPlace} (h : DataW.trod enc P w base (fun _ => true) held fuel t cs = some y) :
    cs.length = P.cellsOf t ∧ ∃ m, ∀ (i : Nat) (f : Field) (c : Value), fs[i]? = some f → P.cellsOf f.type = 1 → cs[f.offset]? = some c → ∃ z, DataW.trod enc P w base (fun _ => true) held m f.type [c] = some z ∧ Rows.uptoBulk z.1 + 1 ≤ Rows.uptoBulk y.1 := by
  obtain ⟨xs, m, _, hy, hl, hlen, hf⟩ := DataW.trod_struct ht h
  refine ⟨hl, m, fun i f c hfi hc1 hco => ?_⟩
  have hi : i < xs.length := by
    rw [hlen]
    exact (Array.getElem?_eq_some_iff.1 hfi).1
  have h1 := hf i f hfi
  rw [hc1, List.getElem?_eq_getElem hi] at h1
  obtain ⟨hol, hoc⟩ := List.getElem?_eq_some_iff.1 hco
  have e : (cs.drop f.offset).take 1 = [c] := by
    rw [List.drop_eq_getElem_cons hol, hoc]
    rfl
  rw [e] at h1
  refine ⟨_, h1, ?_⟩
  subst hy
  simp only [Rows.uptoBulk]
  have hm : (xs[i]).1 ∈ xs.map (·.1) := List.mem_map.2 ⟨xs[i], List.getElem_mem _, rfl⟩
  have := bulk_mem hm
  omega
theorem structs_bulk {P : Program} {t e : TypeId} (ht : P.underlying t = some (.slice e)) (hpos : 0 < P.cellsOf e) {fuel : Nat} {a0 : Option Addr} {len cap : Nat} {y : DataW H × List MemPlace} (h : DataW.trod enc P w base (fun _ => true) held fuel t [.slice a0 len cap] = some y) :
    len = 0 ∨ ∃ b off n, ∃ G : List (DataW H), a0 = some ⟨b, off, none⟩ ∧ b < w.heap.size ∧ len ≤ cap ∧ cap ≤ maxLen ∧ G.length = len ∧ Rows.uptoBulkAll G + 1 ≤ Rows.uptoBulk y.1 ∧ ∀ i, i < len → ∃ cs z, cs.length = P.cellsOf e ∧ (∀ j, j < P.cellsOf e → w.cell? ⟨b, off + i * P.cellsOf e + j, none⟩ = cs[j]?) ∧ DataW.trod enc P w base (fun _ => true) held n e cs = some z ∧ G[i]? = some z.1 := by
  rcases Go.Deep.open_slice ht h with ⟨hcs, _⟩ | ⟨x, l, c, m, n, D, Pl, hcs, _, hl, hm, hmm, hy, hel⟩
  · left
    simp at hcs
    exact hcs.2.1
  · simp at hcs
    obtain ⟨rfl, rfl, rfl⟩ := hcs
    by_cases h0 : len = 0
    · exact .inl h0
    right
    have hmc : m = cap := by simpa using hmm
    obtain ⟨b, off, spot⟩ := x
    obtain ⟨cs0, hc0, _⟩ := hel 0 (by omega)
    have q0 := (World.cells?_some hc0).2.2 0 hpos
    have hlen0 := (World.cells?_some hc0).2.1
    have hz : ((⟨b, off, spot⟩ : Addr).add (0 * P.cellsOf e)).add 0 = ⟨b, off, spot⟩ := by simp [Addr.add]
    rw [hz] at q0
    have q1 : w.cell? ⟨b, off, spot⟩ = some (cs0[0]'(by omega)) := by rw [q0]; exact List.getElem?_eq_getElem _
    have hspot : spot = none := by simpa using World.cell?_spot q1
    subst hspot
    refine ⟨b, off, n, (List.range len).map D, rfl, World.block_lt_of_cell? w _ q1, hl, hm, by simp, ?_, fun i hi => ?_⟩
    · subst hy
      simp only [Rows.uptoBulk]
      omega
    · obtain ⟨cs, hcs, ht'⟩ := hel i (by omega)
      refine ⟨cs, _, (World.cells?_some hcs).2.1, fun j hj => ?_, ht', by simp [hi]⟩
      have hcell := (World.cells?_some hcs).2.2 j hj
      rw [add_none, add_none] at hcell
      exact hcell
theorem len7b {cs : List Value} (h : cs.length = 7) : ∃ c0 c1 c2 c3 c4 c5 c6, cs = [c0, c1, c2, c3, c4, c5, c6] := by
  match cs, h with
  | [c0, c1, c2, c3, c4, c5, c6], _ => exact ⟨c0, c1, c2, c3, c4, c5, c6, rfl⟩
theorem len3b {cs : List Value} (h : cs.length = 3) : ∃ c0 c1 c2, cs = [c0, c1, c2] := by
  match cs, h with
  | [c0, c1, c2], _ => exact ⟨c0, c1, c2, rfl⟩
theorem len1b {cs : List Value} (h : cs.length = 1) : ∃ c0, cs = [c0] := by
  match cs, h with
  | [c0], _ => exact ⟨c0, rfl⟩
theorem cellsExB : Try.prog.cellsOf 38 = 7 := by kernel_rfl
theorem cellsDfB : Try.prog.cellsOf 41 = 3 := by kernel_rfl
theorem cellsSoB : Try.prog.cellsOf 24 = 1 := by kernel_rfl
theorem expr_bulk {fuel : Nat} {cs : List Value} {y : DataW H × List MemPlace} (h : DataW.trod enc Try.prog w base (fun _ => true) held fuel 38 cs = some y) : ∃ x : Nd, cs = ndc x ∧ 2 ≤ Rows.uptoBulk y.1 := by
  obtain ⟨hl, m, hf⟩ := field_bulk Try.underlying38 h
  rw [cellsExB] at hl
  obtain ⟨c0, c1, c2, c3, c4, c5, c6, rfl⟩ := len7b hl
  obtain ⟨y0, t0, b0⟩ := hf 0 _ c0 rfl (by kernel_rfl) rfl
  obtain ⟨y1, t1, _⟩ := hf 1 _ c1 rfl (by kernel_rfl) rfl
  obtain ⟨y2, t2, _⟩ := hf 2 _ c2 rfl (by kernel_rfl) rfl
  obtain ⟨y3, t3, _⟩ := hf 3 _ c3 rfl (by kernel_rfl) rfl
  obtain ⟨y4, t4, _⟩ := hf 4 _ c4 rfl (by kernel_rfl) rfl
  obtain ⟨y5, t5, _⟩ := hf 5 _ c5 rfl (by kernel_rfl) rfl
  obtain ⟨y6, t6, _⟩ := hf 6 _ c6 rfl (by kernel_rfl) rfl
  obtain ⟨a0, k0, _, _⟩ := DataW.trod_int Try.underlying3 t0
  obtain ⟨a1, k1, _, _⟩ := DataW.trod_int Try.underlying3 t1
  obtain ⟨a2, k2, _, _⟩ := DataW.trod_string Try.underlying9 t2
  obtain ⟨a3, k3, _, _⟩ := DataW.trod_string Try.underlying9 t3
  obtain ⟨a4, k4, _, _⟩ := DataW.trod_int Try.underlying3 t4
  obtain ⟨a5, k5, _, _⟩ := DataW.trod_int Try.underlying3 t5
  obtain ⟨a6, k6, _, _⟩ := DataW.trod_int Try.underlying3 t6
  simp at k0 k1 k2 k3 k4 k5 k6
  subst k0 k1 k2 k3 k4 k5 k6
  have := bulk_pos y0.1
  exact ⟨⟨a0, a1, a2, a3, a4, a5, a6⟩, rfl, by omega⟩
theorem slice_formB {P : Program} {t e : TypeId} (ht : P.underlying t = some (.slice e)) {fuel : Nat} {c : Value} {y : DataW H × List MemPlace} (h : DataW.trod enc P w base (fun _ => true) held fuel t [c] = some y) : ∃ a n cap, c = .slice a n cap ∧ n ≤ cap ∧ (a = none → cap = 0) ∧ n ≤ maxLen := by
  rcases Go.Deep.open_slice ht h with ⟨hcs, _⟩ | ⟨x, l, c', m, n, D, Pl, hcs, _, hl, hm, _⟩
  · simp at hcs
    exact ⟨none, 0, 0, hcs, Nat.le_refl _, fun _ => rfl, Nat.zero_le _⟩
  · simp at hcs
    exact ⟨some x, l, c', hcs, hl, (fun h => by cases h), Nat.le_trans hl hm⟩
theorem list_ofB {α : Type} (n : Nat) (Q : Nat → α → Prop) (h : ∀ i, i < n → ∃ x, Q i x) : ∃ l : List α, l.length = n ∧ ∀ i x, l[i]? = some x → Q i x := by
  induction n with
  | zero => exact ⟨[], rfl, fun i x h => by simp at h⟩
  | succ n ih =>
    obtain ⟨l, h1, h2⟩ := ih (fun i hi => h i (by omega))
    obtain ⟨x, hx⟩ := h n (by omega)
    refine ⟨l ++ [x], by simp [h1], fun i y hy => ?_⟩
    rcases Nat.lt_or_ge i l.length with hi | hi
    · rw [List.getElem?_append_left hi] at hy; exact h2 i y hy
    · rw [List.getElem?_append_right hi] at hy
      have h0 : i - l.length = 0 := by have := (List.getElem?_eq_some_iff.1 hy).1; simpa using this
      rw [h0] at hy
      simp at hy
      subst hy
      obtain rfl : i = n := by omega
      exact hx
theorem exprs_bulk {fuel : Nat} {c : Value} {y : DataW H × List MemPlace} (h : DataW.trod enc Try.prog w base (fun _ => true) held fuel 39 [c] = some y) :
    ∃ a cap N, c = .slice a N.length cap ∧ N.length ≤ cap ∧ (a = none → cap = 0) ∧ NRow w a N ∧ 2 * N.length + 1 ≤ Rows.uptoBulk y.1 := by
  obtain ⟨a, n, cap, rfl, hc, hz, _⟩ := slice_formB Try.underlying39 h
  rcases structs_bulk Try.underlying39 (by rw [cellsExB]; omega) h with h0 | ⟨b, off, m, G, rfl, hbl, hlc, hcm, hG, hbu, hel⟩
  · subst h0
    exact ⟨a, cap, [], rfl, hc, hz, .inl rfl, bulk_pos _⟩
  · rw [cellsExB] at hel
    have h2 := bulk_two (l := G) (fun g hg => by
      obtain ⟨i, hi, rfl⟩ := List.getElem_of_mem hg
      obtain ⟨cs, z, _, _, ht, hgi⟩ := hel i (by omega)
      rw [List.getElem?_eq_getElem hi] at hgi
      injection hgi with hgi
      rw [hgi]
      exact (expr_bulk ht).choose_spec.2)
    obtain ⟨N, hN, hQ⟩ := list_ofB n (fun i (x : Nd) => ∀ j, j < 7 → w.cell? ⟨b, off + i * 7 + j, none⟩ = (ndc x)[j]?) (fun i hi => by
      obtain ⟨cs, z, _, hcell, ht, _⟩ := hel i hi
      obtain ⟨x, rfl, _⟩ := expr_bulk ht
      exact ⟨x, hcell⟩)
    subst hN
    exact ⟨some ⟨b, off, none⟩, cap, N, rfl, hc, hz, .inr ⟨b, off, rfl, hbl, fun i x hx => hQ i x hx⟩, by omega⟩
theorem def_bulk {fuel : Nat} {cs : List Value} {y : DataW H × List MemPlace} (h : DataW.trod enc Try.prog w base (fun _ => true) held fuel 41 cs = some y) :
    ∃ (d : Df) (va : Option Addr) (vc : Nat), cs = dfc d (.slice va d.ty.length vc) ∧ d.ty.length ≤ vc ∧ (va = none → vc = 0) ∧ NRow w va d.ty ∧ 2 * (d.ty.length + 1) ≤ Rows.uptoBulk y.1 := by
  obtain ⟨hl, m, hf⟩ := field_bulk Try.underlying41 h
  rw [cellsDfB] at hl
  obtain ⟨c0, c1, c2, rfl⟩ := len3b hl
  obtain ⟨y0, t0, _⟩ := hf 0 _ c0 rfl (by kernel_rfl) rfl
  obtain ⟨y1, t1, _⟩ := hf 1 _ c1 rfl (by kernel_rfl) rfl
  obtain ⟨y2, t2, u2⟩ := hf 2 _ c2 rfl (by kernel_rfl) rfl
  obtain ⟨a0, k0, _, _⟩ := DataW.trod_string Try.underlying9 t0
  obtain ⟨a1, k1, _, _⟩ := DataW.trod_int Try.underlying3 t1
  obtain ⟨va, vc, N, rfl, e1, e2, e3, e4⟩ := exprs_bulk t2
  simp at k0 k1
  subst k0 k1
  exact ⟨⟨a0, a1, N⟩, va, vc, rfl, e1, e2, e3, by show 2 * (N.length + 1) ≤ _; omega⟩
theorem defs_bulk {fuel : Nat} {c : Value} {y : DataW H × List MemPlace} (h : DataW.trod enc Try.prog w base (fun _ => true) held fuel 22 [c] = some y) :
    ∃ a cap D, c = .slice a D.length cap ∧ D.length ≤ cap ∧ DRow w a D ∧ 2 * sumN D ≤ Rows.uptoBulk y.1 := by
  obtain ⟨a, n, cap, rfl, hc, hz, _⟩ := slice_formB Try.underlying22 h
  rcases structs_bulk Try.underlying22 (by rw [cellsDfB]; omega) h with h0 | ⟨b, off, m, G, rfl, hbl, hlc, hcm, hG, hbu, hel⟩
  · subst h0
    exact ⟨a, cap, [], rfl, hc, .inl rfl, Nat.zero_le _⟩
  · rw [cellsDfB] at hel
    obtain ⟨D, hD, hQ⟩ := list_ofB n (fun i (d : Df) => (∀ g, G[i]? = some g → 2 * (d.ty.length + 1) ≤ Rows.uptoBulk g) ∧ ∃ va vc, (∀ j, j < 3 → w.cell? ⟨b, off + i * 3 + j, none⟩ = (dfc d (.slice va d.ty.length vc))[j]?) ∧ d.ty.length ≤ vc ∧ (va = none → vc = 0) ∧ NRow w va d.ty) (fun i hi => by
      obtain ⟨cs, z, _, hcell, ht, hgi⟩ := hel i hi
      obtain ⟨d, va, vc, rfl, e1, e2, e3, e4⟩ := def_bulk ht
      exact ⟨d, fun g hg => by rw [hgi] at hg; injection hg with hg; subst hg; exact e4, va, vc, hcell, e1, e2, e3⟩)
    subst hD
    have hs := bulk_sum (L := D) (G := G) hG (fun i d g hd hg => (hQ i d hd).1 g hg)
    exact ⟨some ⟨b, off, none⟩, cap, D, rfl, hc, .inr ⟨b, off, rfl, hbl, fun i d hd => (hQ i d hd).2⟩, by omega⟩
theorem source_bulk {fuel : Nat} {cs : List Value} {y : DataW H × List MemPlace} (h : DataW.trod enc Try.prog w base (fun _ => true) held fuel 24 cs = some y) :
    ∃ a cap D, cs = [.slice a D.length cap] ∧ D.length ≤ cap ∧ DRow w a D ∧ 2 * sumN D ≤ Rows.uptoBulk y.1 := by
  obtain ⟨hl, m, hf⟩ := field_bulk Try.underlying24 h
  rw [cellsSoB] at hl
  obtain ⟨c0, rfl⟩ := len1b hl
  obtain ⟨y0, t0, u0⟩ := hf 0 _ c0 rfl (by kernel_rfl) rfl
  obtain ⟨a, cap, D, rfl, e1, e2, e3⟩ := defs_bulk t0
  exact ⟨a, cap, D, rfl, e1, e2, by omega⟩
end
end Go.Proofs.Ytjeafblkmipdmaa
