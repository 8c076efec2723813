/- The table, step by step. -/
import Derived.Test.YtmeplmhngmlnaaaV
namespace Go.Proofs.Ytmeplmhngmlnaaa
open Go.RowKit
set_option linter.unusedVariables false

section
variable {B bt : Nat} {w0 w w' : World} {i : Nat → InD} {r : Nat → RinD} {o s : Nat → OutD} {k : BkD}
theorem fam_i (B : Nat) (i : Nat → InD) (r : Nat → RinD) (o s : Nat → OutD) (k : BkD) (W : Nat) (hW : W < 2) : fam B i r o s k W = inA B (i W) := by unfold fam; rw [if_pos hW]
theorem fam_r (B : Nat) (i : Nat → InD) (r : Nat → RinD) (o s : Nat → OutD) (k : BkD) (W : Nat) (hW : W < 2) : fam B i r o s k (2 + W) = rinA B (r W) := by unfold fam; rw [if_neg (by omega), if_pos (by omega), Nat.add_sub_cancel_left]
theorem fam_o (B : Nat) (i : Nat → InD) (r : Nat → RinD) (o s : Nat → OutD) (k : BkD) (W : Nat) (hW : W < 2) : fam B i r o s k (4 + W) = outA 67 B (o W) := by unfold fam; rw [if_neg (by omega), if_neg (by omega), if_pos (by omega), Nat.add_sub_cancel_left]
theorem fam_s (B : Nat) (i : Nat → InD) (r : Nat → RinD) (o s : Nat → OutD) (k : BkD) (W : Nat) (hW : W < 2) : fam B i r o s k (6 + W) = outA 84 B (s W) := by unfold fam; rw [if_neg (by omega), if_neg (by omega), if_neg (by omega), if_pos (by omega), Nat.add_sub_cancel_left]
theorem fam_k (B : Nat) (i : Nat → InD) (r : Nat → RinD) (o s : Nat → OutD) (k : BkD) : fam B i r o s k 8 = bkA B k := by unfold fam; rw [if_neg (by omega), if_neg (by omega), if_neg (by omega), if_neg (by omega)]
theorem fam_ei (W : Nat) (hW : W < 2) (d : InD) (c : Nat) (hc : c < 9) : ext (fam B i r o s k) W (inA B d) c = fam B (ext i W d) r o s k c := by
  by_cases e : c = W
  · subst e; rw [ext_at, fam_i _ _ _ _ _ _ _ hW, ext_at]
  · rw [ext_ne _ _ _ _ e]
    unfold fam
    by_cases h : c < 2
    · rw [if_pos h, if_pos h, ext_ne _ _ _ _ e]
    · rw [if_neg h, if_neg h]
theorem fam_er (W : Nat) (hW : W < 2) (d : RinD) (c : Nat) (hc : c < 9) : ext (fam B i r o s k) (2 + W) (rinA B d) c = fam B i (ext r W d) o s k c := by
  by_cases e : c = 2 + W
  · subst e; rw [ext_at, fam_r _ _ _ _ _ _ _ hW, ext_at]
  · rw [ext_ne _ _ _ _ e]
    unfold fam
    by_cases h : c < 2
    · rw [if_pos h, if_pos h]
    · by_cases h2 : c < 4
      · rw [if_neg h, if_neg h, if_pos h2, if_pos h2, ext_ne _ _ _ _ (by omega)]
      · rw [if_neg h, if_neg h, if_neg h2, if_neg h2]
theorem fam_eo (W : Nat) (hW : W < 2) (d : OutD) (c : Nat) (hc : c < 9) : ext (fam B i r o s k) (4 + W) (outA 67 B d) c = fam B i r (ext o W d) s k c := by
  by_cases e : c = 4 + W
  · subst e; rw [ext_at, fam_o _ _ _ _ _ _ _ hW, ext_at]
  · rw [ext_ne _ _ _ _ e]
    unfold fam
    by_cases h : c < 4
    · by_cases h1 : c < 2
      · rw [if_pos h1, if_pos h1]
      · rw [if_neg h1, if_neg h1, if_pos h, if_pos h]
    · have h1 : ¬ c < 2 := by omega
      rw [if_neg h1, if_neg h1, if_neg h, if_neg h]
      by_cases h2 : c < 6
      · rw [if_pos h2, if_pos h2, ext_ne _ _ _ _ (by omega)]
      · rw [if_neg h2, if_neg h2]
theorem fam_es (W : Nat) (hW : W < 2) (d : OutD) (c : Nat) (hc : c < 9) : ext (fam B i r o s k) (6 + W) (outA 84 B d) c = fam B i r o (ext s W d) k c := by
  by_cases e : c = 6 + W
  · subst e; rw [ext_at, fam_s _ _ _ _ _ _ _ hW, ext_at]
  · rw [ext_ne _ _ _ _ e]
    unfold fam
    by_cases h1 : c < 2
    · rw [if_pos h1, if_pos h1]
    · by_cases h2 : c < 4
      · rw [if_neg h1, if_neg h1, if_pos h2, if_pos h2]
      · by_cases h3 : c < 6
        · rw [if_neg h1, if_neg h1, if_neg h2, if_neg h2, if_pos h3, if_pos h3]
        · rw [if_neg h1, if_neg h1, if_neg h2, if_neg h2, if_neg h3, if_neg h3]
          by_cases h4 : c < 8
          · rw [if_pos h4, if_pos h4, ext_ne _ _ _ _ (by omega)]
          · rw [if_neg h4, if_neg h4]
theorem fam_ek (d : BkD) (c : Nat) (hc : c < 9) : ext (fam B i r o s k) 8 (bkA B d) c = fam B i r o s d c := by
  by_cases e : c = 8
  · subst e; rw [ext_at, fam_k]
  · rw [ext_ne _ _ _ _ e]
    unfold fam
    by_cases h1 : c < 2
    · rw [if_pos h1, if_pos h1]
    · by_cases h2 : c < 4
      · rw [if_neg h1, if_neg h1, if_pos h2, if_pos h2]
      · by_cases h3 : c < 6
        · rw [if_neg h1, if_neg h1, if_neg h2, if_neg h2, if_pos h3, if_pos h3]
        · rw [if_neg h1, if_neg h1, if_neg h2, if_neg h2, if_neg h3, if_neg h3, if_pos (by omega), if_pos (by omega)]
theorem two_cases {W : Nat} (h : W < 2) : W = 0 ∨ W = 1 := by omega
/-- The program's input turns. -/
theorem tb_in (t : Tb B w0 w bt i r o s k) (W : Nat) (hW : W < 2) {h' : List Int} {p' : Int} {en' : Bool} (h : InTo B w w' (i W).b (i W).v h' p' en') :
    ∃ v', Tb B w0 w' bt (ext i W ⟨(i W).b, v', h', p', en'⟩) r o s k ∧ Upd (FI (i W).b (i W).v) w w' := by
  obtain ⟨v', h1, h2, h3⟩ := h
  have hc : W < 9 := by omega
  have hfo := t.bt_out (W) hc
  have hlow : ∀ q, FI (i W).b (i W).v q → B ≤ q := fun q hq => ((t.sep.lt (W) hc q (by rw [fam_i _ _ _ _ _ _ _ hW]; exact hq))).1
  rw [fam_i _ _ _ _ _ _ _ hW] at hfo
  refine ⟨v', ⟨(t.sep.set (a := inA B ⟨(i W).b, v', h', p', en'⟩) (W) hc h2 (fun q _ hq => .inl (by rw [fam_i _ _ _ _ _ _ _ hW]; exact hq)) h1 (inA_good B _) (fun q hq => ?_)).congr (fun c hc => fam_ei W hW _ c hc), ?_, t.bel.trans (h2.below B t.base hlow), t.lo, t.frU h2 (fun q hq => .inr (.inr ⟨W, hc, by rw [fam_i _ _ _ _ _ _ _ hW]; exact hq⟩))⟩, h2⟩
  · rw [fam_i _ _ _ _ _ _ _ hW]
    rcases hq with e | e
    · exact .inl (.inl e)
    · rcases h3 q e with e2 | e2
      · exact .inl (.inr e2)
      · exact .inr (.inl e2)
  · have e : pres (ext i W ⟨(i W).b, v', h', p', en'⟩) r o s = pres i r o s := by
      rcases two_cases hW with rfl | rfl <;> rfl
    rw [e]
    exact t.tab.upd h2 hfo
/-- The document's input turns. -/
theorem tb_rin (t : Tb B w0 w bt i r o s k) (W : Nat) (hW : W < 2) {l' : List Int} {T' : Nat} {F' : Int} {en' : Bool} (h : RinTo B w w' (r W).b (r W).v l' T' F' en') :
    ∃ v', Tb B w0 w' bt i (ext r W ⟨(r W).b, v', l', T', F', en'⟩) o s k ∧ Upd (FI (r W).b (r W).v) w w' := by
  obtain ⟨v', h1, h2, h3⟩ := h
  have hc : 2 + W < 9 := by omega
  have hfo := t.bt_out (2 + W) hc
  have hlow : ∀ q, FI (r W).b (r W).v q → B ≤ q := fun q hq => ((t.sep.lt (2 + W) hc q (by rw [fam_r _ _ _ _ _ _ _ hW]; exact hq))).1
  rw [fam_r _ _ _ _ _ _ _ hW] at hfo
  refine ⟨v', ⟨(t.sep.set (a := rinA B ⟨(r W).b, v', l', T', F', en'⟩) (2 + W) hc h2 (fun q _ hq => .inl (by rw [fam_r _ _ _ _ _ _ _ hW]; exact hq)) h1 (rinA_good B _) (fun q hq => ?_)).congr (fun c hc => fam_er W hW _ c hc), ?_, t.bel.trans (h2.below B t.base hlow), t.lo, t.frU h2 (fun q hq => .inr (.inr ⟨2 + W, hc, by rw [fam_r _ _ _ _ _ _ _ hW]; exact hq⟩))⟩, h2⟩
  · rw [fam_r _ _ _ _ _ _ _ hW]
    rcases hq with e | e
    · exact .inl (.inl e)
    · rcases h3 q e with e2 | e2
      · exact .inl (.inr e2)
      · exact .inr (.inl e2)
  · have e : pres i (ext r W ⟨(r W).b, v', l', T', F', en'⟩) o s = pres i r o s := by
      rcases two_cases hW with rfl | rfl <;> rfl
    rw [e]
    exact t.tab.upd h2 hfo
/-- The program's output turns. -/
theorem tb_out (t : Tb B w0 w bt i r o s k) (W : Nat) (hW : W < 2) {l' : List Int} {m' : Int} (h : OutTo 67 B w w' (o W).b (o W).v l' m') :
    ∃ v', Tb B w0 w' bt i r (ext o W ⟨(o W).b, v', l', m'⟩) s k ∧ Upd (FI (o W).b (o W).v) w w' := by
  obtain ⟨v', h1, h2, h3⟩ := h
  have hc : 4 + W < 9 := by omega
  have hfo := t.bt_out (4 + W) hc
  have hlow : ∀ q, FI (o W).b (o W).v q → B ≤ q := fun q hq => ((t.sep.lt (4 + W) hc q (by rw [fam_o _ _ _ _ _ _ _ hW]; exact hq))).1
  rw [fam_o _ _ _ _ _ _ _ hW] at hfo
  refine ⟨v', ⟨(t.sep.set (a := outA 67 B ⟨(o W).b, v', l', m'⟩) (4 + W) hc h2 (fun q _ hq => .inl (by rw [fam_o _ _ _ _ _ _ _ hW]; exact hq)) h1 (outA_good 67 B _) (fun q hq => ?_)).congr (fun c hc => fam_eo W hW _ c hc), ?_, t.bel.trans (h2.below B t.base hlow), t.lo, t.frU h2 (fun q hq => .inr (.inr ⟨4 + W, hc, by rw [fam_o _ _ _ _ _ _ _ hW]; exact hq⟩))⟩, h2⟩
  · rw [fam_o _ _ _ _ _ _ _ hW]
    rcases hq with e | e
    · exact .inl (.inl e)
    · rcases h3 q e with e2 | e2
      · exact .inl (.inr e2)
      · exact .inr (.inl e2)
  · have e : pres i r (ext o W ⟨(o W).b, v', l', m'⟩) s = pres i r o s := by
      rcases two_cases hW with rfl | rfl <;> rfl
    rw [e]
    exact t.tab.upd h2 hfo
/-- The document's output turns. -/
theorem tb_rout (t : Tb B w0 w bt i r o s k) (W : Nat) (hW : W < 2) {l' : List Int} {m' : Int} (h : OutTo 84 B w w' (s W).b (s W).v l' m') :
    ∃ v', Tb B w0 w' bt i r o (ext s W ⟨(s W).b, v', l', m'⟩) k ∧ Upd (FI (s W).b (s W).v) w w' := by
  obtain ⟨v', h1, h2, h3⟩ := h
  have hc : 6 + W < 9 := by omega
  have hfo := t.bt_out (6 + W) hc
  have hlow : ∀ q, FI (s W).b (s W).v q → B ≤ q := fun q hq => ((t.sep.lt (6 + W) hc q (by rw [fam_s _ _ _ _ _ _ _ hW]; exact hq))).1
  rw [fam_s _ _ _ _ _ _ _ hW] at hfo
  refine ⟨v', ⟨(t.sep.set (a := outA 84 B ⟨(s W).b, v', l', m'⟩) (6 + W) hc h2 (fun q _ hq => .inl (by rw [fam_s _ _ _ _ _ _ _ hW]; exact hq)) h1 (outA_good 84 B _) (fun q hq => ?_)).congr (fun c hc => fam_es W hW _ c hc), ?_, t.bel.trans (h2.below B t.base hlow), t.lo, t.frU h2 (fun q hq => .inr (.inr ⟨6 + W, hc, by rw [fam_s _ _ _ _ _ _ _ hW]; exact hq⟩))⟩, h2⟩
  · rw [fam_s _ _ _ _ _ _ _ hW]
    rcases hq with e | e
    · exact .inl (.inl e)
    · rcases h3 q e with e2 | e2
      · exact .inl (.inr e2)
      · exact .inr (.inl e2)
  · have e : pres i r o (ext s W ⟨(s W).b, v', l', m'⟩) = pres i r o s := by
      rcases two_cases hW with rfl | rfl <;> rfl
    rw [e]
    exact t.tab.upd h2 hfo
/-- A list goes into the book. -/
theorem tb_keep (t : Tb B w0 w bt i r o s k) (v : Value) (hv : ∀ q, v.ownBlock = some q → (B ≤ q ∧ w0.heap.size ≤ q) ∧ ∀ c, c < 9 → ¬ (fam B i r o s k c).foot q) (h : KeepTo B w w' bt (pres i r o s) k.vL k.vM k.N k.F k.G v) :
    ∃ k', k'.N = k.N + 1 ∧ Tb B w0 w' bt i r o s k' ∧ Upd (fun q => q = bt ∨ v.ownBlock = some q ∨ FK k.vL k.vM k.N k.F k.G q) w w' ∧ ∀ q, FK k'.vL k'.vM k'.N k'.F k'.G q → FK k.vL k.vM k.N k.F k.G q ∨ v.ownBlock = some q ∨ w.heap.size ≤ q := by
  obtain ⟨vL', vM', F', G', s', h1, h2, h3, h4⟩ := h
  refine ⟨⟨vL', vM', k.N + 1, F', G', s'⟩, rfl, ⟨(t.sep.set (a := bkA B ⟨vL', vM', k.N + 1, F', G', s'⟩) 8 (by omega) h3 (fun q _ hq => ?_) h1 (bkA_good B _) (fun q hq => ?_)).congr (fun c hc => fam_ek _ c hc), h2, t.bel.trans (h3.below B t.base (fun q hq => ?_)), t.lo, t.frU h3 (fun q hq => ?_)⟩, h3, h4⟩
  · rcases hq with e | e | e
    · subst e; exact .inr (fun d hd => t.bt_out d hd)
    · exact .inr (fun d hd => (hv q e).2 d hd)
    · exact .inl (by rw [fam_k]; exact e)
  · rcases h4 q hq with e | e | e
    · exact .inl (by rw [fam_k]; exact e)
    · exact .inr (.inr (fun d hd => (hv q e).2 d hd))
    · exact .inr (.inl e)
  · rcases hq with e | e | e
    · subst e; exact t.lo
    · exact (hv q e).1.1
    · exact (t.bk.lt q e).1
  · rcases hq with e | e | e
    · exact .inl e
    · exact .inr (.inl (hv q e).1.2)
    · exact .inr (.inr ⟨8, by omega, by rw [fam_k]; exact e⟩)
end
end Go.Proofs.Ytmeplmhngmlnaaa
