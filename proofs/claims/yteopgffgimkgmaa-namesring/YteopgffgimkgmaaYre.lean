/- reaches: does one definition lead to another? -/
import Derived.Test.YteopgffgimkgmaaYw
import Derived.Deep.RegionLaw
namespace Go.Proofs.Yteopgffgimkgmaa
open Go.RowKit
set_option linter.unusedVariables false

/-- What is to do, and what was seen: all of it is led to; what is done has its uses seen; the end is not seen. -/
structure Rch (U : List (List Nat)) (a b : Nat) (todo seen : List Nat) (i : Nat) : Prop where
  hd : todo = a :: seen
  led : ∀ x ∈ seen, Lead U a x
  nd : seen.Nodup
  lt : ∀ x ∈ seen, x < U.length
  done : ∀ (j m : Nat), j < i → todo[j]? = some m → ∀ u ∈ us U m, u ∈ seen
  nb : b ∉ seen
  il : i ≤ todo.length
section
variable {U : List (List Nat)} {a b i m : Nat} {todo seen : List Nat}
theorem Rch.start (U : List (List Nat)) (a b : Nat) : Rch U a b [a] [] 0 := ⟨rfl, fun x h => by simp at h, List.nodup_nil, fun x h => by simp at h, fun j m h => by omega, by simp, Nat.zero_le _⟩
theorem nodup_lt (l : List Nat) (n : Nat) (h : l.Nodup) (hl : ∀ x ∈ l, x < n) : l.length ≤ n := by
  have h1 : l.Subset (List.range n) := fun x hx => List.mem_range.2 (hl x hx)
  have := h.length_le_of_subset h1
  simpa using this
theorem Rch.len (h : Rch U a b todo seen i) : todo.length ≤ U.length + 1 := by
  rw [h.hd, List.length_cons]
  have := nodup_lt seen _ h.nd h.lt
  omega
theorem Rch.at (h : Rch U a b todo seen i) {m : Nat} (hm : m ∈ todo) : m = a ∨ Lead U a m := by
  rw [h.hd] at hm
  rcases List.mem_cons.1 hm with e | e
  · exact .inl e
  · exact .inr (h.led m e)
theorem Rch.push (h : Rch U a b todo seen i) {u : Nat} (hm : m ∈ todo) (hu : u ∈ us U m) (hul : u < U.length) (hn : u ∉ seen) (hb : u ≠ b) : Rch U a b (todo ++ [u]) (seen ++ [u]) i := by
  refine ⟨by rw [h.hd]; rfl, fun x hx => ?_, ?_, fun x hx => ?_, fun j q hj hq w hw => ?_, fun hx => ?_, by rw [List.length_append]; have := h.il; omega⟩
  · rcases List.mem_append.1 hx with hx | hx
    · exact h.led x hx
    · simp at hx; subst hx
      rcases h.at hm with rfl | h1
      · exact Lead.one hu
      · exact h1.trans (Lead.one hu)
  · rw [List.nodup_append]
    refine ⟨h.nd, by simp, fun x hx y hy e => ?_⟩
    simp at hy; subst hy; subst e
    exact hn hx
  · rcases List.mem_append.1 hx with hx | hx
    · exact h.lt x hx
    · simp at hx; subst hx; exact hul
  · have hl : j < todo.length := Nat.lt_of_lt_of_le hj h.il
    rw [List.getElem?_append_left hl] at hq
    exact List.mem_append.2 (.inl (h.done j q hj hq w hw))
  · rcases List.mem_append.1 hx with hx | hx
    · exact h.nb hx
    · simp at hx; exact hb hx.symm
theorem Rch.next (h : Rch U a b todo seen i) (hm : todo[i]? = some m) (hs : ∀ u ∈ us U m, u ∈ seen) : Rch U a b todo seen (i + 1) :=
  ⟨h.hd, h.led, h.nd, h.lt, fun j q hj hq => by
    rcases Nat.lt_or_ge j i with hj2 | hj2
    · exact h.done j q hj2 hq
    · obtain rfl : j = i := by omega
      rw [hm] at hq
      injection hq with hq
      subst hq
      exact hs, h.nb, (List.getElem?_eq_some_iff.1 hm).1⟩
theorem Rch.none (h : Rch U a b todo seen todo.length) : ¬ Lead U a b := by
  have key : ∀ k, k ∈ todo → ∀ u ∈ us U k, u ≠ b ∧ u ∈ todo := fun k hk u hu => by
    obtain ⟨j, hj⟩ := List.mem_iff_getElem?.1 hk
    have := h.done j k (List.getElem?_eq_some_iff.1 hj).1 hj u hu
    exact ⟨fun e => h.nb (e ▸ this), by rw [h.hd]; exact .tail _ this⟩
  exact no_lead (fun x => x ∈ todo) key a (by rw [h.hd]; exact .head _)
end
end Go.Proofs.Yteopgffgimkgmaa
