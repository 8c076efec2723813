/- The document's Peek; bytes that are lent. -/
import Derived.Test.YtmeplmhngmlnaaaP
import Derived.Test.YtmeplmhngmlnaaaN
namespace Go.Proofs.Ytmeplmhngmlnaaa
open Go.RowKit
set_option linter.unusedVariables false

set_option maxHeartbeats 2000000 in
theorem rpeek_yes (B b : Nat) (v : Value) (l : List Int) (T : Nat) (F : Int) (en : Bool) (m : Nat) (w : World) (n : Nat) (hn : Hid ((l.drop T).length = n)) (i : Hid (RinAt B w b v l T F en)) (hs : Hid (l.length ≤ 1000000)) (hm : m ≤ n) :
    Calls Try.prog 38 #[.pointer (some ⟨b, 0, none⟩), .int .i64 m] w fun e w' => ∃ a c, e = .returned (.tuple #[.slice a m c, .bool true]) ∧ Hid (Row .u8 w' a ((l.drop T).take m)) ∧ Below w.heap.size w w' := by
  have hTn : T + n = l.length := by have h1 := hn.out; have h3 := i.out.le; rw [List.length_drop] at h1; omega
  have hTm : T + m ≤ l.length := by omega
  have iD : RinAt B w.drew.drew b v l T F en := i.out.later (Below.refl _ _).drew.drew
  obtain ⟨a, c, rfl, hlc, hcm, hcase⟩ := peek_run iD.all T m hTm hs.out
  have hsz := hs.out
  obtain ⟨L, hL⟩ : ∃ L, l.length = L := ⟨_, rfl⟩
  have c0 := i.out.c0
  have c1 := i.out.c1
  rw [hL] at hTm hlc c0 hsz
  have k0 : ¬ (m : Int) < 0 := by omega
  have k1 : ¬ (n : Int) < m := by omega
  obtain ⟨E, hE⟩ : ∃ E, T + m = E := ⟨_, rfl⟩
  have k2 : IntKind.i64.wrap ((T : Int) + m) = (E : Int) := by rw [i64w _ (by omega)]; omega
  unfold maxLen at hcm
  have k3 : (E : Int) ≤ L := by omega
  have k4 : (E : Int) ≤ c := by omega
  have k7 : (T : Int) ≤ E := by omega
  have k6 : E - T = m := by omega
  have keep1 : ∀ w1, Below w.heap.size w w1 → w1.cell? ⟨b, 0, none⟩ = some (.slice a L c) ∧ w1.cell? ⟨b, 1, none⟩ = some (.int .i64 T) := fun w1 hB => by
    have h0 := (i.out.later hB).c0
    have h1 := (i.out.later hB).c1
    rw [hL] at h0
    exact ⟨h0, h1⟩
  clear hTn iD
  rcases hcase with ⟨rfl, rfl, rfl, rfl, hl0, a1, cc, w1, r1, hr, hB⟩ | ⟨bb, off, rfl, ⟨rfl, rfl, a1, cc, w1, r1, hr, hB⟩ | ⟨hlt, a1, cc, w1, r1, hr, hB⟩⟩
  · obtain rfl : L = 0 := by omega
    obtain rfl : E = 0 := by omega
    clear r1 hr hB keep1 hL k6 k2 hE
    go_enter Try.func38, Try.ntmps38
    go_wp2_with fail
    refine (rheld_any B b _ l 0 F en _ n hn i hs).mono ?_; rintro e w9 ⟨rfl, hw9⟩
    subst hw9
    go_wp2_with fail
    go_region_held_law (fun w' => w'.cell? ⟨b, 0, none⟩ = some (.slice none 0 0) ∧ w'.cell? ⟨b, 1, none⟩ = some (.int .i64 0)) (first | assumption | exact ⟨c0, c1⟩) (fail)
    go_wp2
    go_ret2
    first | exact ⟨none, 0, rfl, .inl ⟨rfl, by simp⟩, (Below.refl _ _).drew.drew⟩ | exact ⟨none, ⟨0, rfl⟩, .inl ⟨rfl, by simp⟩, (Below.refl _ _).drew.drew⟩
  · have hET : E = T := by omega
    rw [hET] at k2 k3 k4 k7 k6 hE
    have k8 : IntKind.i64.wrap (T : Int) = T := i64w _ (by omega)
    clear k2
    have hsl := slice_eq (some ⟨bb, off, none⟩) L T
    have R1 : Hid _ := r1
    have HR : Hid _ := hr
    have hBw : Below w.heap.size w w1 := below_to (Below.refl _ _).drew.drew hB
    have hS1 := keep1 w1 hBw
    clear r1 hr hB keep1 hL hE k3 k4 k7 k6
    go_enter Try.func38, Try.ntmps38
    go_wp2_with fail
    refine (rheld_any B b _ l T F en _ n hn i hs).mono ?_; rintro e w9 ⟨rfl, hw9⟩
    subst hw9
    go_wp2_with fail
    go_region_held_law (fun w' => w'.cell? ⟨b, 0, none⟩ = some (.slice (some ⟨bb, off, none⟩) L T) ∧ w'.cell? ⟨b, 1, none⟩ = some (.int .i64 T)) (first | assumption | exact ⟨c0, c1⟩)
      (first | (refine step_append_run rfl (.const (.slice none 0 0)) (.tmp 28) 30 30 rfl rfl rfl R1.out ?_))
    go_wp2
    go_ret2
    exact ⟨a1, ⟨cc, by simp⟩, HR, hBw⟩
  · have k5 : (T : Int) < c := by omega
    have hsl := slice_lt bb off L c T E m hE (by omega) hlt
    have R1 : Hid _ := r1
    have HR : Hid _ := hr
    have hBw : Below w.heap.size w w1 := below_to (Below.refl _ _).drew.drew hB
    have hS1 := keep1 w1 hBw
    clear r1 hr hB keep1 hL hE k3 k4 k7 k6
    go_enter Try.func38, Try.ntmps38
    go_wp2_with fail
    refine (rheld_any B b _ l T F en _ n hn i hs).mono ?_; rintro e w9 ⟨rfl, hw9⟩
    subst hw9
    go_wp2_with fail
    go_region_held_law (fun w' => w'.cell? ⟨b, 0, none⟩ = some (.slice (some ⟨bb, off, none⟩) L c) ∧ w'.cell? ⟨b, 1, none⟩ = some (.int .i64 T)) (first | assumption | exact ⟨c0, c1⟩)
      (first | (refine step_append_run rfl (.const (.slice none 0 0)) (.tmp 28) 30 30 rfl rfl rfl R1.out ?_))
    go_wp2
    go_ret2
    exact ⟨a1, ⟨cc, by simp⟩, HR, hBw⟩
end Go.Proofs.Ytmeplmhngmlnaaa
