import Derived.Test.YtdpkmkhflgmioaaPart24
import Derived.Test.YtdpkmkhflgmioaaPart11
import Derived.Test.YtdpkmkhflgmioaaPart06
import Derived.Test.YtdpkmkhflgmioaaPart08
import Derived.SizedLaws
import Derived.WalkKit
import Derived.ProofKit
import Derived.Below
import Derived.OpenShut

/- The reading of a list of nodes out of an argument. -/
namespace Go.Proofs.Ytdpkmkhflgmioaa
open Go.ChangeShapes Go.WideShapes Go.ChangeAt Go.RowKit
set_option linter.unusedVariables false

theorem cellsNd : Try.prog.cellsOf 58 = 3 := by kernel_rfl
theorem node_open {H : Type} {enc : TypeId × Value → H} {w : World} {base : Nat} {held : Bool} {fuel : Nat} {cs : List Value} {y : DataW H × List MemPlace} (h : DataW.trod enc Try.prog w base (fun _ => true) held fuel 58 cs = some y) : ∃ x : Nv, cs = nvc x ∧ NvOk x := by
  obtain ⟨hl, m, hf⟩ := field_read Try.underlying58 h
  rw [cellsNd] at hl
  obtain ⟨c0, c1, c2, rfl⟩ := len3R hl
  obtain ⟨y0, t0⟩ := hf 0 _ c0 rfl (by kernel_rfl) rfl
  obtain ⟨y1, t1⟩ := hf 1 _ c1 rfl (by kernel_rfl) rfl
  obtain ⟨y2, t2⟩ := hf 2 _ c2 rfl (by kernel_rfl) rfl
  obtain ⟨a0, k0, _, _⟩ := DataW.trod_int Try.underlying3 t0
  obtain ⟨a1, k1, hw1, _⟩ := DataW.trod_int Try.underlying56 t1
  obtain ⟨a2, k2, _, _⟩ := DataW.trod_int Try.underlying3 t2
  simp at k0 k1 k2
  subst k0 k1 k2
  refine ⟨⟨a0, a1, a2⟩, rfl, ?_⟩
  have h64 : (Lit.int .u64 a1).wf = true := by first | assumption | exact hw1.1 | exact hw1
  have h65 : IntKind.u64.min ≤ a1 ∧ a1 ≤ IntKind.u64.max := by simpa [Lit.wf] using h64
  have e1 : IntKind.u64.min = 0 := by decide
  have e2 : IntKind.u64.max = 18446744073709551615 := by decide
  rw [e1, e2] at h65
  exact ⟨by show 0 ≤ a1; omega, by show a1 < _; omega⟩
theorem bytesNd : Try.prog.bytesOf 58 = 24 := by kernel_rfl
theorem nodes_open {H : Type} {enc : TypeId × Value → H} {w : World} {base : Nat} {held : Bool} {fuel : Nat} {c : Value} {y : DataW H × List MemPlace} (h : DataW.trod enc Try.prog w base (fun _ => true) held fuel 38 [c] = some y) (hw : ∀ k ∈ y.1.weights Try.prog 38, k ≤ 140737488351232) :
    ∃ a cap N, c = .slice a N.length cap ∧ N.length ≤ cap ∧ (a = none → cap = 0) ∧ VRow w a N ∧ (∀ x ∈ N, NvOk x) ∧ N.length ≤ 5864062014634 := by
  obtain ⟨a, n, cap, rfl, hc, hz, _⟩ := slice_formR Try.underlying38 h
  have hb : n ≤ 5864062014634 := by
    rcases slice_weightR Try.underlying38 h with h0 | ⟨k, h1, h2⟩
    · omega
    · have := hw _ h2
      rw [bytesNd] at this
      omega
  rcases structs_weigh Try.underlying38 (by rw [cellsNd]; omega) h with h0 | ⟨b, off, m, rfl, hbl, hlc, hcm, hel⟩
  · subst h0
    exact ⟨a, cap, [], rfl, hc, hz, .inl rfl, (fun x hx => by cases hx), by simp⟩
  · rw [cellsNd] at hel
    obtain ⟨N, hN, hQ⟩ := list_ofR n (fun i (x : Nv) => NvOk x ∧ ∀ j, j < 3 → w.cell? ⟨b, off + i * 3 + j, none⟩ = (nvc x)[j]?) (fun i hi => by
      obtain ⟨cs, z, _, hcell, ht, hzz⟩ := hel i hi
      obtain ⟨x, rfl, hx⟩ := node_open ht
      exact ⟨x, hx, hcell⟩)
    subst hN
    refine ⟨some ⟨b, off, none⟩, cap, N, rfl, hc, hz, .inr ⟨b, off, rfl, hbl, fun i x hx => (hQ i x hx).2⟩, fun x hx => ?_, hb⟩
    obtain ⟨i, hi⟩ := List.mem_iff_getElem?.1 hx
    exact (hQ i x hi).1
end Go.Proofs.Ytdpkmkhflgmioaa
