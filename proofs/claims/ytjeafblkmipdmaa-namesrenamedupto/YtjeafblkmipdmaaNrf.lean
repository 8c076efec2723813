/- NamesRenamed: plain: the new names are one to one. -/
import Derived.Test.YtjeafblkmipdmaaNra
import Derived.Test.YtjeafblkmipdmaaNrb
namespace Go.Proofs.Ytjeafblkmipdmaa
open Go.RowKit
set_option linter.unusedVariables false

theorem name_size {s : ByteArray} (h : isName s = true) : s.size ≠ 0 := by
  unfold isName at h
  have := of_decide_eq_true h
  omega
theorem fN_size0 (L : List ByteArray) {s : ByteArray} (h : s.size = 0) : (fN L s).size = 0 := by unfold fN; rw [if_pos h]; exact h
theorem fN_ne (L : List ByteArray) {s : ByteArray} (h : s.size ≠ 0) : fN L s = zqn (ixN L s) := by unfold fN; rw [if_neg h]
theorem turned_look {D : List Df} {L M : List ByteArray} (hin : ∀ d ∈ D, InD L M d) (hL : L.length ≤ 4000000) (hM : M.length ≤ 4000000) {E A : Int} {o : List Nat} {ds : List Int} (h : LookTo D E A o ds) (hck : (ckP D).2.2 = 0) : LookTo (D.map (tnD L M)) E A o ds := by
  have hck2 := ckP_iff.1 hck
  have hnm : ∀ d ∈ D, d.name.size ≠ 0 := fun d hd => name_size (hck2.2 d hd).1
  have e : D.map (tnD L M) = D.map (rnD (fN L) (fN M)) := by
    refine List.map_congr_left (fun d hd => ?_)
    unfold tnD rnD
    rw [fN_ne L (hnm d hd)]
    rfl
  have hall := ckP_all hck
  have R : Rnm D (fN L) (fN M) (fun s => s ∈ L ∧ s.size ≠ 0) (fun s => s.size = 0 ∨ s ∈ M) := by
    refine ⟨fun s t hs ht he => ?_, fun s t hs ht he => ?_, fun d hd => ⟨(hin d hd).1, hnm d hd⟩, fun d hd x hx h9 => ?_, fun d hd x hx => ?_, fun s hs => ?_, fun s hs => fN_size0 L hs, fun s hs => fN_size0 M hs, fun s hs hn => ?_⟩
    · rw [fN_ne L hs.2, fN_ne L ht.2] at he
      have h1 := ix_lt hs.1
      have h2 := ix_lt ht.1
      exact ix_inj hs.1 ht.1 (zqn_inj (by omega) (by omega) he)
    · by_cases h1 : s.size = 0 <;> by_cases h2 : t.size = 0
      · apply ByteArray.ext
        have e1 : s.data = #[] := Array.eq_empty_of_size_eq_zero h1
        have e2 : t.data = #[] := Array.eq_empty_of_size_eq_zero h2
        rw [e1, e2]
      · rw [fN_ne M h2] at he
        have h3 := fN_size0 M h1
        rw [he] at h3
        have := zqn_size (ixN M t)
        omega
      · rw [fN_ne M h1] at he
        have h3 := fN_size0 M h2
        rw [← he] at h3
        have := zqn_size (ixN M s)
        omega
      · have hs' : s ∈ M := hs.resolve_left h1
        have ht' : t ∈ M := ht.resolve_left h2
        rw [fN_ne M h1, fN_ne M h2] at he
        have h3 := ix_lt hs'
        have h4 := ix_lt ht'
        exact ix_inj hs' ht' (zqn_inj (by omega) (by omega) he)
    · obtain ⟨of, dp, hE⟩ := Forest.kinds _ _ _ _ _ (hall.2 d hd).2 x hx
      have hne : x.name.size ≠ 0 := by
        unfold ndE nodeE at hE
        by_cases h1 : 16 < dp
        · rw [if_pos h1] at hE; omega
        rw [if_neg h1] at hE
        by_cases h2 : (x.k = 8 ∨ x.k = 7) ∧ 64 < x.kids
        · rw [if_pos h2] at hE; omega
        rw [if_neg h2] at hE
        by_cases h3 : kindOk x.k x.n x.kids = false ∨ nameOk x.name (decide (x.k = 9)) = false ∨ nameOk x.label (decide (of = 8)) = false
        · rw [if_pos h3] at hE; omega
        have h4 : nameOk x.name (decide (x.k = 9)) = true := by
          cases e : nameOk x.name (decide (x.k = 9)) with
          | false => exact absurd (.inr (.inl e)) h3
          | true => rfl
        unfold nameOk at h4
        rw [decide_eq_true h9] at h4
        exact name_size h4
      exact ⟨((hin d hd).2 x hx).1 hne, hne⟩
    · by_cases h0 : x.label.size = 0
      · exact .inl h0
      · exact .inr (((hin d hd).2 x hx).2 h0)
    · rw [fN_ne L hs.2]
      have := ix_lt hs.1
      exact zqn_name (by omega)
    · have h0 := name_size hn
      rw [fN_ne M h0]
      have := ix_lt (hs.resolve_left h0)
      exact zqn_name (by omega)
  rw [e]
  exact R.look h hck
end Go.Proofs.Ytjeafblkmipdmaa
