/- The table: what the two sides have in common; same. -/
import Derived.Test.YtmeplmhngmlnaaaX
namespace Go.Proofs.Ytmeplmhngmlnaaa
open Go.RowKit
set_option linter.unusedVariables false

/-- Behind n calls. -/
structure Rl (i : Nat → InD) (r : Nat → RinD) (o s : Nat → OutD) (k : BkD) (n : Nat) : Prop where
  h : ∀ W, W < 2 → (i W).h = (r W).l.drop (r W).T
  p : ∀ W, W < 2 → (r W).F + (r W).T = (i W).p
  en : ∀ W, W < 2 → (i W).en = (r W).en
  f : ∀ W, W < 2 → 0 ≤ (r W).F ∧ (r W).F ≤ 2147483647
  len : ∀ W, W < 2 → (r W).l.length ≤ 1000 * n
  ol : ∀ W, W < 2 → (o W).l = (s W).l
  om : ∀ W, W < 2 → (o W).m = (s W).m
  m : ∀ W, W < 2 → 0 ≤ (s W).m ∧ (s W).m ≤ 9223372036854775807
  olen : ∀ W, W < 2 → (s W).l.length ≤ 1000 * n
  kN : k.N ≤ 2 * n
section
variable {B bt : Nat} {w0 w w' : World} {i : Nat → InD} {r : Nat → RinD} {o s : Nat → OutD} {k : BkD}
theorem Tb.cI (t : Tb B w0 w bt i r o s k) (W : Nat) (hW : W < 2) : w.cell? ⟨bt, W, none⟩ = some (.pointer (some ⟨(i W).b, 0, none⟩)) := by
  rcases two_cases hW with rfl | rfl <;> exact t.tab.2.cell _
theorem Tb.cR (t : Tb B w0 w bt i r o s k) (W : Nat) (hW : W < 2) : w.cell? ⟨bt, 2 + W, none⟩ = some (.pointer (some ⟨(r W).b, 0, none⟩)) := by
  rcases two_cases hW with rfl | rfl <;> exact t.tab.2.cell _
theorem Tb.cO (t : Tb B w0 w bt i r o s k) (W : Nat) (hW : W < 2) : w.cell? ⟨bt, 4 + W, none⟩ = some (.pointer (some ⟨(o W).b, 0, none⟩)) := by
  rcases two_cases hW with rfl | rfl <;> exact t.tab.2.cell _
theorem Tb.cS (t : Tb B w0 w bt i r o s k) (W : Nat) (hW : W < 2) : w.cell? ⟨bt, 6 + W, none⟩ = some (.pointer (some ⟨(s W).b, 0, none⟩)) := by
  rcases two_cases hW with rfl | rfl <;> exact t.tab.2.cell _
theorem Tb.z (t : Tb B w0 w bt i r o s k) (j : Nat) : w.frozen? ⟨bt, j, none⟩ = false := t.tab.z j
end
set_option maxHeartbeats 4000000 in
set_option maxRecDepth 100000 in
theorem same_any (B bt : Nat) (w0 w : World) (i : Nat → InD) (r : Nat → RinD) (o s : Nat → OutD) (k : BkD) (n W : Nat) (t : Hid (Tb B w0 w bt i r o s k)) (l : Hid (Rl i r o s k n)) (hn : n ≤ 1000) (hW : W < 2) :
    Calls Try.prog 35 #[.pointer (some ⟨bt, 0, none⟩), .int .i64 W] w fun e w' => e = .returned (.bool true) ∧ Below w.heap.size w w' := by
  have cI := t.out.cI W hW
  have cR := t.out.cR W hW
  have HI : Hid _ := t.out.inp W hW
  have HR : Hid _ := t.out.rin W hW
  have hp := l.out.p W hW
  have hf := l.out.f W hW
  have hen := l.out.en W hW
  have hh := l.out.h W hW
  have hlen := l.out.len W hW
  have hT := HR.out.le
  have hW' : (W : Int) < 2 := by omega
  obtain ⟨K, hK⟩ : ∃ K, (i W).h.length = K := ⟨_, rfl⟩
  have HK : Hid ((i W).h.length = K) := hK
  have HK2 : Hid (((r W).l.drop (r W).T).length = K) := by show _ = _; rw [← hh]; exact hK
  have HL : Hid ((r W).l.length ≤ 1000000) := by show _ ≤ _; omega
  have HP : Hid ((r W).F + (r W).T = (i W).p ∧ 0 ≤ (r W).F ∧ (r W).F + (r W).T ≤ 9223372036854775807) := ⟨hp, hf.1, by omega⟩
  rw [hen] at HI
  clear hp hf hen hh hlen hT hK t l
  generalize (i W).b = bi at *
  generalize (i W).v = vi at *
  generalize (i W).h = hi at *
  generalize (i W).p = pi at *
  generalize (r W).b = br at *
  generalize (r W).v = vr at *
  generalize (r W).l = lr at *
  generalize (r W).T = Tr at *
  generalize (r W).F = Fr at *
  generalize (r W).en = en at *
  go_enter Try.func35, Try.ntmps35
  go_wp2_with fail
  --1
  go_quiet (first
    | (go_at_call 19; exact Calls.quiet_of_same ((at_any B bi vi hi pi en _ (HI.out.later (below_drewN _ _))).mono fun _ _ h => ⟨h.1, h.2.symm⟩))
    | (go_at_call 48; exact Calls.quiet_of ((rat_any B br vr lr Tr Fr pi en _ (HR.out.later (below_drewN _ _)) HP.out.1 HP.out.2.1 HP.out.2.2).mono fun _ _ h => ⟨h.1, 1, h.2.symm⟩))
    | (go_at_call 20; exact Calls.quiet_of_same ((held_any B bi vi hi pi en _ K HK (HI.out.later (below_drewN _ _))).mono fun _ _ h => ⟨h.1, h.2.symm⟩))
    | (go_at_call 49; exact Calls.quiet_of ((rheld_any B br vr lr Tr Fr en _ K HK2 (HR.out.later (below_drewN _ _)) HL).mono fun _ _ h => ⟨h.1, 1, h.2.symm⟩))
    | (go_at_call 21; exact Calls.quiet_of_same ((ended_any B bi vi hi pi en _ (HI.out.later (below_drewN _ _))).mono fun _ _ h => ⟨h.1, h.2.symm⟩))
    | (go_at_call 50; exact Calls.quiet_of_same ((rended_any B br vr lr Tr Fr en _ (HR.out.later (below_drewN _ _))).mono fun _ _ h => ⟨h.1, h.2.symm⟩)))
  go_wp2
  go_ret
  exact ⟨ret_bool (by simp), below_drewN _ _⟩
end Go.Proofs.Ytmeplmhngmlnaaa
