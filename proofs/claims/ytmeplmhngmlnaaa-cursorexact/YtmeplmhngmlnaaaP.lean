/- The document's Take and Peek; bytes that are lent. -/
import Derived.Test.YtmeplmhngmlnaaaO
namespace Go.Proofs.Ytmeplmhngmlnaaa
open Go.RowKit
set_option linter.unusedVariables false

set_option maxHeartbeats 2000000 in
theorem rtake_any (B b : Nat) (v : Value) (l : List Int) (T : Nat) (F : Int) (en : Bool) (w : World) (n : Nat) (hn : Hid ((l.drop T).length = n)) (i : Hid (RinAt B w b v l T F en)) (hs : Hid (l.length ≤ 1000000)) :
    Calls Try.prog 37 #[.pointer (some ⟨b, 0, none⟩)] w fun e w' => e = .returned (.tuple #[.int .u8 ((l.drop T).getD 0 0), .bool (decide (0 < n))]) ∧ Hid (RinTo B w w' b v l (if 0 < n then T + 1 else T) F en) := by
  have c1 := i.out.c1
  have z1 := i.out.blk.frozen 1
  have hTn : T + n ≤ 1000000 := by have h1 := hn.out; have h2 := hs.out; have h3 := i.out.le; rw [List.length_drop] at h1; omega
  have hTl : T + n = l.length := by have h1 := hn.out; have h3 := i.out.le; rw [List.length_drop] at h1; omega
  by_cases h0 : 0 < n
  · rw [if_pos h0, decide_eq_true h0]
    obtain ⟨w2, hw2⟩ : ∃ w2, w2 = w.setCell ⟨b, 1, none⟩ (.int .i64 ((T + 1 : Nat) : Int)) := ⟨_, rfl⟩
    have hu2 : Upd (fun q => q = b) w w2 := by rw [hw2]; exact (Upd.refl (fun q => q = b) w).set ⟨b, 1, none⟩ _ (.inl rfl)
    have iS : RinAt B w2 b v l (T + 1) F en := ⟨by rw [hw2]; exact i.out.blk.set 1 _, i.out.all.upd hu2 (fun q hq e => i.out.sep (by rw [← e]; exact hq)), i.out.lo, by omega⟩
    have HT : Hid (RinTo B w w2.drew.drew b v l (T + 1) F en) := ⟨v, iS.later (Below.refl _ _).drew.drew, (hu2.mono (fun k _ hk => .inl hk)).drew.drew, fun q hq => .inl hq⟩
    have d0 := iS.c0
    have d1 := iS.c1
    obtain ⟨g, off, cap, rfl, hc1, hc2, -, hcell⟩ := iS.all.addr (by omega)
    have hx := hcell T (by omega)
    have HX : Hid ((l.drop T).getD 0 0 = l.getD T 0) := by show _ = _; simp [List.getD]
    rw [HX.out]
    generalize l.getD T 0 = x at *
    obtain ⟨L, hL⟩ : ∃ L, l.length = L := ⟨_, rfl⟩
    rw [hL] at d0 hc1 hTl ⊢
    have hTL : (T : Int) < L := by omega
    have k3 : wrap64 ((T : Int) + 1) = ((T + 1 : Nat) : Int) := by rw [w64 _ (by omega)]; omega
    have k4 : wrap64 (((T + 1 : Nat) : Int) - 1) = T := by rw [w64 _ (by omega)]; omega
    have k5 : ¬ (n : Int) = 0 := by omega
    rw [hL] at HT
    clear hcell iS hu2 hL hTl hc1 hc2
    --1
    go_enter Try.func37, Try.ntmps37
    go_wp2_with fail
    refine (rheld_any B b _ l T F en _ n hn i hs).mono ?_; rintro e w9 ⟨rfl, hw9⟩
    subst hw9
    go_wp2_with fail
    --2
    rw [show (T : Int) + 1 = ((T + 1 : Nat) : Int) by omega, ← hw2]
    clear hw2 c1 z1
    go_region
    --3
    go_wp2
    go_ret2
    exact ⟨rfl, HT⟩
  · rw [if_neg h0, decide_eq_false h0]
    obtain rfl : n = 0 := by omega
    have HX : Hid ((l.drop T).getD 0 0 = 0) := by
      show _ = _
      rw [List.length_eq_zero_iff.1 hn.out]
      rfl
    rw [HX.out]
    have HT : Hid _ := rin_drew (rin_same (i.out.later (Below.refl _ _).drew))
    go_enter Try.func37, Try.ntmps37
    go_wp2_with fail
    refine (rheld_any B b _ l T F en _ 0 hn i hs).mono ?_; rintro e w9 ⟨rfl, hw9⟩
    subst hw9
    go_wp2
    go_ret2
    exact ⟨rfl, HT⟩
theorem rpeek_no (B b : Nat) (v : Value) (l : List Int) (T : Nat) (F : Int) (en : Bool) (m : Int) (w : World) (n : Nat) (hn : Hid ((l.drop T).length = n)) (i : Hid (RinAt B w b v l T F en)) (hs : Hid (l.length ≤ 1000000)) (hm : ¬ (0 ≤ m ∧ m ≤ n)) :
    Calls Try.prog 38 #[.pointer (some ⟨b, 0, none⟩), .int .i64 m] w fun e w' => e = .returned (.tuple #[.slice none 0 0, .bool false]) ∧ Below w.heap.size w w' := by
  by_cases h0 : 0 ≤ m
  · have k1 : ¬ m < 0 := by omega
    have k2 : (n : Int) < m := by omega
    clear hm
    go_enter Try.func38, Try.ntmps38
    go_wp2_with fail
    refine (rheld_any B b _ l T F en _ n hn i hs).mono ?_; rintro e w9 ⟨rfl, hw9⟩
    subst hw9
    go_wp2
    go_ret2
    exact ⟨rfl, (Below.refl _ _).drew⟩
  · have k1 : m < 0 := by omega
    clear hm
    go_enter Try.func38, Try.ntmps38
    go_wp2
    go_ret2
    exact ⟨rfl, Below.refl _ _⟩
/-- The cut and its copy. -/
theorem peek_run {B : Nat} {w : World} {v : Value} {l : List Int} (ht : Tail B w 5 .u8 v l) (T m : Nat) (h : T + m ≤ l.length) (hs : l.length ≤ 1000000) :
    ∃ a c, v = .slice a l.length c ∧ l.length ≤ c ∧ c ≤ maxLen ∧
      ((a = none ∧ c = 0 ∧ T = 0 ∧ m = 0 ∧ l.length = 0 ∧ ∃ a1 c1 w1, (Builtin.append_ #[30, 30] 30 #[.slice none 0 0, .slice none 0 0]).run Try.prog w = .ok (.slice a1 0 c1) w1 ∧ Row .u8 w1 a1 ((l.drop T).take m) ∧ Below w.heap.size w w1) ∨ (∃ b off, a = some ⟨b, off, none⟩ ∧ ((T = c ∧ m = 0 ∧ ∃ a1 c1 w1, (Builtin.append_ #[30, 30] 30 #[.slice none 0 0, .slice (some ⟨b, off, none⟩) 0 0]).run Try.prog w = .ok (.slice a1 0 c1) w1 ∧ Row .u8 w1 a1 ((l.drop T).take m) ∧ Below w.heap.size w w1) ∨
        (T < c ∧ ∃ a1 c1 w1, (Builtin.append_ #[30, 30] 30 #[.slice none 0 0, .slice (some ⟨b, off + T, none⟩) m (c - T)]).run Try.prog w = .ok (.slice a1 m c1) w1 ∧ Row .u8 w1 a1 ((l.drop T).take m) ∧ Below w.heap.size w w1)))) := by
  rcases ht with ⟨rfl, rfl⟩ | ⟨g, cap, pre, post, rfl, h1, h2, h3, h4⟩
  · simp at h
    obtain ⟨v1, w1, r1, o1, g1⟩ := run_copy E30 w 30 w.heap.size none 0 0 [] rfl (.inl ⟨rfl, rfl⟩) (fun _ => rfl) (Nat.zero_le _) (by omega) (Nat.le_refl _)
    obtain ⟨a1, c1, rfl, hr1, _⟩ := own_open o1 rfl
    exact ⟨none, 0, rfl, Nat.le_refl _, Nat.zero_le _, .inl ⟨rfl, rfl, by omega, by omega, rfl, a1, c1, w1, r1, by simpa using hr1, (Below.refl _ _).grown g1 (Nat.le_refl _) (fun k hk => by cases hk)⟩⟩
  · refine ⟨_, cap, rfl, by omega, h4, .inr ⟨g, pre.length, rfl, ?_⟩⟩
    have hrow : Row .u8 w (some ⟨g, pre.length, none⟩) l := Row.mk fun i hi => cell_mid h2 i hi
    by_cases hT : T = cap
    · obtain rfl : m = 0 := by omega
      obtain ⟨v1, w1, r1, o1, g1⟩ := run_copy E30 w 30 w.heap.size (some ⟨g, pre.length, none⟩) 0 0 [] rfl (hrow.take 0) (fun e => by cases e) (Nat.zero_le _) (by omega) (Nat.le_refl _)
      obtain ⟨a1, c1, rfl, hr1, _⟩ := own_open o1 rfl
      exact .inl ⟨hT, rfl, a1, c1, w1, r1, by rw [List.take_zero]; exact hr1, (Below.refl _ _).grown g1 (Nat.le_refl _) (fun k hk => by cases hk)⟩
    · have hl : ((l.drop T).take m).length = m := by rw [List.length_take, List.length_drop]; omega
      obtain ⟨v1, w1, r1, o1, g1⟩ := run_copy E30 w 30 w.heap.size (some ⟨g, pre.length + T, none⟩) m (cap - T) ((l.drop T).take m) hl ((hrow.drop T).take m) (fun e => by cases e) (by unfold maxLen; omega) (by omega) (Nat.le_refl _)
      obtain ⟨a1, c1, rfl, hr1, _⟩ := own_open o1 hl
      exact .inr ⟨by omega, a1, c1, w1, r1, hr1, (Below.refl _ _).grown g1 (Nat.le_refl _) (fun k hk => by cases hk)⟩
end Go.Proofs.Ytmeplmhngmlnaaa
