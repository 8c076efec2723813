/- What the reading of a list of calls says of memory. -/
import Derived.Test.YtmhcihccliakaaaQ
import Derived.ProofKit
import Derived.OpenShut
import Derived.Deep.Slices
namespace Go.Proofs.Ytmhcihccliakaaa
open Go.ChangeShapes Go.WideShapes Go.ChangeAt Go.RowKit
set_option linter.unusedVariables false

variable {H : Type} {enc : TypeId × Value → H} {w : World} {base : Nat} {held : Bool}

theorem bytes_open {fuel : Nat} {v : Value} {y : DataW H × List MemPlace} (h : DataW.trod enc Try.prog w base (fun _ => true) held fuel 22 [v] = some y) :
    ∃ a n cap f, v = .slice a n cap ∧ n ≤ cap ∧ cap ≤ maxLen ∧ RowB w a n f ∧ (a = none → cap = 0) ∧ ∀ i, i < n → f i < 256 := by
  rcases open_ints Try.underlying22 Try.underlying5 (by kernel_rfl) h with ⟨hcs, _⟩ | ⟨x, l, c, zs, hcs, _, hl, hm, hz, _, hcell, hwz⟩
  · simp at hcs
    subst hcs
    exact ⟨none, 0, 0, fun _ => 0, rfl, Nat.le_refl _, Nat.zero_le _, .inl ⟨rfl, rfl⟩, fun _ => rfl, fun i hi => by omega⟩
  · simp at hcs
    subst hcs
    have hz' : zs.length = c := by simpa using hz
    have hbd : ∀ i, i < zs.length → 0 ≤ zs.getD i 0 ∧ zs.getD i 0 ≤ 255 := by
      intro i hi
      have hmem : zs.getD i 0 ∈ zs := by rw [List.getD_eq_getElem?_getD, List.getElem?_eq_getElem hi]; exact List.getElem_mem hi
      exact bounds_u8 (hwz _ hmem)
    refine ⟨some x, l, c, fun i => (zs.getD i 0).toNat, rfl, hl, hm, .inr ⟨x, rfl, fun i hi => ?_⟩, (fun h => by cases h), fun i hi => ?_⟩
    · rw [hcell i (by omega), Int.toNat_of_nonneg (hbd i (by omega)).1]
    · show (zs.getD i 0).toNat < 256
      have := hbd i (by omega); omega
theorem ints_open {fuel : Nat} {v : Value} {y : DataW H × List MemPlace} (h : DataW.trod enc Try.prog w base (fun _ => true) held fuel 33 [v] = some y) :
    ∃ a n cap L, v = .slice a n cap ∧ n ≤ cap ∧ cap ≤ maxLen ∧ L.length = n ∧ RowX w a L ∧ (a = none → cap = 0) := by
  rcases open_ints Try.underlying33 Try.underlying3 (by kernel_rfl) h with ⟨hcs, _⟩ | ⟨x, l, c, zs, hcs, _, hl, hm, hz, _, hcell, hwz⟩
  · simp at hcs
    subst hcs
    exact ⟨none, 0, 0, [], rfl, Nat.le_refl _, Nat.zero_le _, rfl, .inl ⟨rfl, rfl⟩, fun _ => rfl⟩
  · simp at hcs
    subst hcs
    have hz' : zs.length = c := by simpa using hz
    refine ⟨some x, l, c, zs.take l, rfl, hl, hm, by simp; omega, .inr ⟨x, rfl, fun i hi => ?_⟩, fun h => by cases h⟩
    have h1 : i < l := by simp at hi; omega
    rw [hcell i (by omega)]
    simp [List.getD, h1]

theorem len6 {cs : List Value} (h : cs.length = 6) : ∃ c0 c1 c2 c3 c4 c5, cs = [c0, c1, c2, c3, c4, c5] := by
  match cs, h with
  | [c0, c1, c2, c3, c4, c5], _ => exact ⟨c0, c1, c2, c3, c4, c5, rfl⟩
theorem cells40 : Try.prog.cellsOf 40 = 6 := by kernel_rfl
theorem cells3 : Try.prog.cellsOf 3 = 1 := by kernel_rfl
theorem cells22 : Try.prog.cellsOf 22 = 1 := by kernel_rfl
theorem cells23 : Try.prog.cellsOf 23 = 1 := by kernel_rfl
theorem cells33 : Try.prog.cellsOf 33 = 1 := by kernel_rfl

theorem op_open {fuel : Nat} {cs : List Value} {y : DataW H × List MemPlace} (h : DataW.trod enc Try.prog w base (fun _ => true) held fuel 40 cs = some y) :
    ∃ (kind : Int) (a : Option Addr) (n cap : Nat) (pos wid : Int) (N : Nat) (a2 : Option Addr) (n2 cap2 : Nat) (f : Nat → Nat) (L : List Int),
      cs = [.int .i64 kind, .slice a n cap, .int .i64 pos, .int .i64 wid, .int .u64 N, .slice a2 n2 cap2] ∧ OpF w a n cap N a2 n2 cap2 f L := by
  obtain ⟨xs, m, _, _, hl, hlen, hf⟩ := DataW.trod_struct Try.underlying40 h
  rw [cells40] at hl
  obtain ⟨c0, c1, c2, c3, c4, c5, rfl⟩ := len6 hl
  have hx : ∀ i, i < 6 → ∃ y, xs[i]? = some y := fun i hi => ⟨xs[i]'(by rw [hlen]; exact hi), List.getElem?_eq_getElem _⟩
  obtain ⟨y0, e0⟩ := hx 0 (by omega)
  obtain ⟨y1, e1⟩ := hx 1 (by omega)
  obtain ⟨y2, e2⟩ := hx 2 (by omega)
  obtain ⟨y3, e3⟩ := hx 3 (by omega)
  obtain ⟨y4, e4⟩ := hx 4 (by omega)
  obtain ⟨y5, e5⟩ := hx 5 (by omega)
  have u0 : DataW.trod enc Try.prog w base (fun _ => true) held m 3 (([c0, c1, c2, c3, c4, c5].drop 0).take (Try.prog.cellsOf 3)) = xs[0]? := hf 0 _ rfl
  rw [cells3, e0] at u0
  have t0 : DataW.trod enc Try.prog w base (fun _ => true) held m 3 [c0] = some y0 := u0
  have u1 : DataW.trod enc Try.prog w base (fun _ => true) held m 22 (([c0, c1, c2, c3, c4, c5].drop 1).take (Try.prog.cellsOf 22)) = xs[1]? := hf 1 _ rfl
  rw [cells22, e1] at u1
  have t1 : DataW.trod enc Try.prog w base (fun _ => true) held m 22 [c1] = some y1 := u1
  have u2 : DataW.trod enc Try.prog w base (fun _ => true) held m 3 (([c0, c1, c2, c3, c4, c5].drop 2).take (Try.prog.cellsOf 3)) = xs[2]? := hf 2 _ rfl
  rw [cells3, e2] at u2
  have t2 : DataW.trod enc Try.prog w base (fun _ => true) held m 3 [c2] = some y2 := u2
  have u3 : DataW.trod enc Try.prog w base (fun _ => true) held m 3 (([c0, c1, c2, c3, c4, c5].drop 3).take (Try.prog.cellsOf 3)) = xs[3]? := hf 3 _ rfl
  rw [cells3, e3] at u3
  have t3 : DataW.trod enc Try.prog w base (fun _ => true) held m 3 [c3] = some y3 := u3
  have u4 : DataW.trod enc Try.prog w base (fun _ => true) held m 23 (([c0, c1, c2, c3, c4, c5].drop 4).take (Try.prog.cellsOf 23)) = xs[4]? := hf 4 _ rfl
  rw [cells23, e4] at u4
  have t4 : DataW.trod enc Try.prog w base (fun _ => true) held m 23 [c4] = some y4 := u4
  have u5 : DataW.trod enc Try.prog w base (fun _ => true) held m 33 (([c0, c1, c2, c3, c4, c5].drop 5).take (Try.prog.cellsOf 33)) = xs[5]? := hf 5 _ rfl
  rw [cells33, e5] at u5
  have t5 : DataW.trod enc Try.prog w base (fun _ => true) held m 33 [c5] = some y5 := u5
  obtain ⟨kind, k0, _, _⟩ := DataW.trod_int Try.underlying3 t0
  obtain ⟨a, n, cap, f, rfl, b1, b2, b3, b4, b5⟩ := bytes_open t1
  obtain ⟨pos, k2, _, _⟩ := DataW.trod_int Try.underlying3 t2
  obtain ⟨wid, k3, _, _⟩ := DataW.trod_int Try.underlying3 t3
  obtain ⟨N0, k4, _, wN⟩ := DataW.trod_int Try.underlying23 t4
  obtain ⟨a2, n2, cap2, L, rfl, l1, l2, l3, l4, l5⟩ := ints_open t5
  have hN := bounds_u64 wN
  obtain ⟨N, rfl⟩ := Int.eq_ofNat_of_zero_le hN.1
  simp at k0 k2 k3 k4
  subst k0 k2 k3 k4
  exact ⟨kind, a, n, cap, pos, wid, N, a2, n2, cap2, f, L, rfl, ⟨b1, b2, l1, l2, by omega, b3, b4, b5, l3, l4, l5⟩⟩

theorem ops_open {fuel : Nat} {a0 : Option Addr} {len cap : Nat} {y : DataW H × List MemPlace} (h : DataW.trod enc Try.prog w base (fun _ => true) held fuel 37 [.slice a0 len cap] = some y) :
    len = 0 ∨ ∃ b off, a0 = some ⟨b, off, none⟩ ∧ b < w.heap.size ∧ len ≤ maxLen ∧ ∀ i, i < len → OpR w b off i := by
  rcases Go.Deep.open_slice Try.underlying37 h with ⟨hcs, _⟩ | ⟨x, l, c, m, n, D, Pl, hcs, _, hl, hm, hmm, _, hel⟩
  · left
    simp at hcs
    exact hcs.2.1
  · simp at hcs
    obtain ⟨rfl, rfl, rfl⟩ := hcs
    by_cases h0 : len = 0
    · exact .inl h0
    right
    have hmc : m = cap := by simpa using hmm
    obtain ⟨b, off, spot⟩ := x
    rw [cells40] at hel
    obtain ⟨cs0, hc0, _⟩ := hel 0 (by omega)
    have q0 := (World.cells?_some hc0).2.2 0 (by omega)
    have hlen0 := (World.cells?_some hc0).2.1
    have hz : ((⟨b, off, spot⟩ : Addr).add (0 * 6)).add 0 = ⟨b, off, spot⟩ := by simp [Addr.add]
    rw [hz] at q0
    have q1 : w.cell? ⟨b, off, spot⟩ = some (cs0[0]'(by omega)) := by rw [q0]; exact List.getElem?_eq_getElem _
    have hspot : spot = none := by simpa using World.cell?_spot q1
    subst hspot
    refine ⟨b, off, rfl, World.block_lt_of_cell? w _ q1, by omega, fun i hi => ?_⟩
    obtain ⟨cs, hcs, ht⟩ := hel i (by omega)
    obtain ⟨kind, a, nn, cp, pos, wid, N, a2, n2, cp2, f, L, rfl, hF⟩ := op_open ht
    have hcell := (World.cells?_some hcs).2.2
    have hadd : ∀ j, ((⟨b, off, none⟩ : Addr).add (i * 6)).add j = ⟨b, off + i * 6 + j, none⟩ := by
      intro j
      have h1 : (⟨b, off, none⟩ : Addr).add (i * 6) = ⟨b, off + i * 6, none⟩ := by unfold Addr.add; split <;> simp_all
      rw [h1]
      unfold Addr.add; split <;> simp_all
    refine ⟨kind, a, nn, cp, pos, wid, N, a2, n2, cp2, f, L, ⟨?_, ?_, ?_, ?_, ?_, ?_⟩, hF⟩
    · have := hcell 0 (by omega); rw [hadd] at this; exact this
    · have := hcell 1 (by omega); rw [hadd] at this; exact this
    · have := hcell 2 (by omega); rw [hadd] at this; exact this
    · have := hcell 3 (by omega); rw [hadd] at this; exact this
    · have := hcell 4 (by omega); rw [hadd] at this; exact this
    · have := hcell 5 (by omega); rw [hadd] at this; exact this
end Go.Proofs.Ytmhcihccliakaaa
