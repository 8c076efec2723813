/- The table at its beginning: nine new things. -/
import Derived.Test.YtmeplmhngmlnaaaZl
namespace Go.Proofs.Ytmeplmhngmlnaaa
open Go.RowKit
set_option linter.unusedVariables false

def bkN : BkD := ⟨.slice none 0 0, .slice none 0 0, 0, fun _ => .slice none 0 0, fun _ => .slice none 0 0, fun _ => 0⟩
def bl (i : Nat → InD) (r : Nat → RinD) (o s : Nat → OutD) (c : Nat) : Nat := if c < 2 then (i c).b else if c < 4 then (r (c - 2)).b else if c < 6 then (o (c - 4)).b else (s (c - 6)).b
theorem fi_nil {b q : Nat} {v : Value} (hv : v = .slice none 0 0) (h : FI b v q) : q = b := by
  subst hv
  rcases h with h | h
  · exact h
  · cases h
theorem tb_begin {B bt : Nat} {w0 w : World} (i : Nat → InD) (r : Nat → RinD) (o s : Nat → OutD) (hi : ∀ W, W < 2 → InAt B w (i W).b (i W).v (i W).h (i W).p (i W).en) (hr : ∀ W, W < 2 → RinAt B w (r W).b (r W).v (r W).l (r W).T (r W).F (r W).en)
    (ho : ∀ W, W < 2 → OutAt 67 B w (o W).b (o W).v (o W).l (o W).m) (hs : ∀ W, W < 2 → OutAt 84 B w (s W).b (s W).v (s W).l (s W).m)
    (vi : ∀ W, W < 2 → (i W).v = .slice none 0 0) (vr : ∀ W, W < 2 → (r W).v = .slice none 0 0) (vo : ∀ W, W < 2 → (o W).v = .slice none 0 0) (vs : ∀ W, W < 2 → (s W).v = .slice none 0 0)
    (hd : ∀ c d, c < 8 → d < 8 → c ≠ d → bl i r o s c ≠ bl i r o s d) (ht : TabAt w bt (pres i r o s) (.slice none 0 0) (.slice none 0 0)) (hb : Below B w0 w) (hl : B ≤ bt) (hf : ∀ q ys, Blk w0 q 53 ys → Blk w q 53 ys) : Tb B w0 w bt i r o s bkN := by
  have foot : ∀ c, c < 9 → ∀ q, (fam B i r o s bkN c).foot q → c < 8 ∧ q = bl i r o s c := by
    intro c hc q h
    unfold fam at h
    unfold bl
    by_cases h1 : c < 2
    · rw [if_pos h1] at h ⊢
      exact ⟨by omega, fi_nil (vi c h1) h⟩
    · by_cases h2 : c < 4
      · rw [if_neg h1, if_pos h2] at h ⊢
        exact ⟨by omega, fi_nil (vr _ (by omega)) h⟩
      · by_cases h3 : c < 6
        · rw [if_neg h1, if_neg h2, if_pos h3] at h ⊢
          exact ⟨by omega, fi_nil (vo _ (by omega)) h⟩
        · by_cases h4 : c < 8
          · rw [if_neg h1, if_neg h2, if_neg h3, if_pos h4] at h
            rw [if_neg h1, if_neg h2, if_neg h3]
            exact ⟨h4, fi_nil (vs _ (by omega)) h⟩
          · rw [if_neg h1, if_neg h2, if_neg h3, if_neg h4] at h
            rcases h with h | h | ⟨j, hj, _⟩
            · cases h
            · cases h
            · exact absurd hj (Nat.not_lt_zero j)
  refine ⟨⟨fun c hc => ?_, fun c hc => ?_, fun c d hc hdd hn q h1 h2 => ?_⟩, ht, hb, hl, hf⟩
  · unfold fam
    by_cases h1 : c < 2
    · rw [if_pos h1]; exact hi c h1
    · by_cases h2 : c < 4
      · rw [if_neg h1, if_pos h2]; exact hr _ (by omega)
      · by_cases h3 : c < 6
        · rw [if_neg h1, if_neg h2, if_pos h3]; exact ho _ (by omega)
        · by_cases h4 : c < 8
          · rw [if_neg h1, if_neg h2, if_neg h3, if_pos h4]; exact hs _ (by omega)
          · rw [if_neg h1, if_neg h2, if_neg h3, if_neg h4]; exact BookSt.none B w
  · unfold fam
    by_cases h1 : c < 2
    · rw [if_pos h1]; exact inA_good B _
    · by_cases h2 : c < 4
      · rw [if_neg h1, if_pos h2]; exact rinA_good B _
      · by_cases h3 : c < 6
        · rw [if_neg h1, if_neg h2, if_pos h3]; exact outA_good 67 B _
        · by_cases h4 : c < 8
          · rw [if_neg h1, if_neg h2, if_neg h3, if_pos h4]; exact outA_good 84 B _
          · rw [if_neg h1, if_neg h2, if_neg h3, if_neg h4]; exact bkA_good B _
  · obtain ⟨c8, e1⟩ := foot c hc q h1
    obtain ⟨d8, e2⟩ := foot d hdd q h2
    exact hd c d c8 d8 hn (e1.symm.trans e2)
end Go.Proofs.Ytmeplmhngmlnaaa
