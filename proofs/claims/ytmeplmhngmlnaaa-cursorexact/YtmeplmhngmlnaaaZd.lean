/- Calls of an input: Give. -/
import Derived.Test.YtmeplmhngmlnaaaZc
namespace Go.Proofs.Ytmeplmhngmlnaaa
open Go.RowKit
set_option linter.unusedVariables false

/-- A block that is none of theirs. -/
def Outs (B : Nat) (i : Nat → InD) (r : Nat → RinD) (o s : Nat → OutD) (k : BkD) (q : Nat) : Prop := ∀ c, c < 9 → ¬ (fam B i r o s k c).foot q
section
variable {B bt : Nat} {w0 w w' : World} {i : Nat → InD} {r : Nat → RinD} {o s : Nat → OutD} {k : BkD}
theorem Tb.outs (t : Tb B w0 w bt i r o s k) (q : Nat) (hq : w.heap.size ≤ q) : Outs B i r o s k q := fun c hc h => by
  have := (t.sep.lt c hc q h).2; omega
theorem outs_in {W q : Nat} (hW : W < 2) (h : Outs B i r o s k q) (d : InD) (hd : ¬ FI d.b d.v q) : Outs B (ext i W d) r o s k q := fun c hc hf => by
  rw [← fam_ei W hW d c hc] at hf
  by_cases e : c = W
  · subst e; rw [ext_at] at hf; exact hd hf
  · rw [ext_ne _ _ _ _ e] at hf; exact h c hc hf
theorem outs_rin {W q : Nat} (hW : W < 2) (h : Outs B i r o s k q) (d : RinD) (hd : ¬ FI d.b d.v q) : Outs B i (ext r W d) o s k q := fun c hc hf => by
  rw [← fam_er W hW d c hc] at hf
  by_cases e : c = 2 + W
  · subst e; rw [ext_at] at hf; exact hd hf
  · rw [ext_ne _ _ _ _ e] at hf; exact h c hc hf
theorem outs_out {W q : Nat} (hW : W < 2) (h : Outs B i r o s k q) (d : OutD) (hd : ¬ FI d.b d.v q) : Outs B i r (ext o W d) s k q := fun c hc hf => by
  rw [← fam_eo W hW d c hc] at hf
  by_cases e : c = 4 + W
  · subst e; rw [ext_at] at hf; exact hd hf
  · rw [ext_ne _ _ _ _ e] at hf; exact h c hc hf
theorem outs_rout {W q : Nat} (hW : W < 2) (h : Outs B i r o s k q) (d : OutD) (hd : ¬ FI d.b d.v q) : Outs B i r o (ext s W d) k q := fun c hc hf => by
  rw [← fam_es W hW d c hc] at hf
  by_cases e : c = 6 + W
  · subst e; rw [ext_at] at hf; exact hd hf
  · rw [ext_ne _ _ _ _ e] at hf; exact h c hc hf
theorem Outs.ni {q : Nat} (h : Outs B i r o s k q) (W : Nat) (hW : W < 2) : ¬ FI (i W).b (i W).v q := by
  have h1 := h W (by omega)
  rw [fam_i _ _ _ _ _ _ _ hW] at h1
  exact h1
theorem Outs.nr {q : Nat} (h : Outs B i r o s k q) (W : Nat) (hW : W < 2) : ¬ FI (r W).b (r W).v q := by
  have h1 := h (2 + W) (by omega)
  rw [fam_r _ _ _ _ _ _ _ hW] at h1
  exact h1
theorem Outs.no {q : Nat} (h : Outs B i r o s k q) (W : Nat) (hW : W < 2) : ¬ FI (o W).b (o W).v q := by
  have h1 := h (4 + W) (by omega)
  rw [fam_o _ _ _ _ _ _ _ hW] at h1
  exact h1
theorem Outs.ns {q : Nat} (h : Outs B i r o s k q) (W : Nat) (hW : W < 2) : ¬ FI (s W).b (s W).v q := by
  have h1 := h (6 + W) (by omega)
  rw [fam_s _ _ _ _ _ _ _ hW] at h1
  exact h1
/-- A block of nobody's is written. -/
theorem tb_upd (t : Tb B w0 w bt i r o s k) (q : Nat) (hu : Upd (fun x => x = q) w w') (ho : Outs B i r o s k q) (hb : bt ≠ q) (hl : B ≤ q ∧ w0.heap.size ≤ q) : Tb B w0 w' bt i r o s k :=
  ⟨t.sep.upd hu (fun c hc x hx e => ho c hc (by rw [← e]; exact hx)), t.tab.upd hu hb, t.bel.trans (hu.below B t.base (fun x hx => by rw [hx]; exact hl.1)), t.lo, t.frU hu (fun x hx => .inr (.inl (by rw [hx]; exact hl.2)))⟩
/-- The input turns; what was outside stays so. -/
theorem tb_in2 (t : Tb B w0 w bt i r o s k) (W : Nat) (hW : W < 2) {h' : List Int} {p' : Int} {en' : Bool} (h : InTo B w w' (i W).b (i W).v h' p' en') :
    ∃ v', Tb B w0 w' bt (ext i W ⟨(i W).b, v', h', p', en'⟩) r o s k ∧ Upd (FI (i W).b (i W).v) w w' ∧ ∀ q, Outs B i r o s k q → q < w.heap.size → Outs B (ext i W ⟨(i W).b, v', h', p', en'⟩) r o s k q := by
  obtain ⟨v', h1, h2, h3⟩ := h
  have hT := t.sep.set (a := inA B ⟨(i W).b, v', h', p', en'⟩) W (by omega) h2 (fun q _ hq => .inl (by rw [fam_i _ _ _ _ _ _ _ hW]; exact hq)) h1 (inA_good B _) (fun q hq => by
    rw [fam_i _ _ _ _ _ _ _ hW]
    rcases hq with e | e
    · exact .inl (.inl e)
    · rcases h3 q e with e2 | e2
      · exact .inl (.inr e2)
      · exact .inr (.inl e2))
  have hfo := t.bt_out W (by omega)
  have hlow : ∀ q, FI (i W).b (i W).v q → B ≤ q := fun q hq => ((t.sep.lt W (by omega) q (by rw [fam_i _ _ _ _ _ _ _ hW]; exact hq))).1
  rw [fam_i _ _ _ _ _ _ _ hW] at hfo
  have e : pres (ext i W ⟨(i W).b, v', h', p', en'⟩) r o s = pres i r o s := by
    rcases two_cases hW with rfl | rfl <;> rfl
  refine ⟨v', ⟨hT.congr (fun c hc => fam_ei W hW _ c hc), by rw [e]; exact t.tab.upd h2 hfo, t.bel.trans (h2.below B t.base hlow), t.lo, t.frU h2 (fun q hq => .inr (.inr ⟨W, by omega, by rw [fam_i _ _ _ _ _ _ _ hW]; exact hq⟩))⟩, h2, fun q ho hq => outs_in hW ho _ ?_⟩
  rintro (e | e)
  · exact ho.ni W hW (.inl e)
  · rcases h3 q e with e2 | e2
    · exact ho.ni W hW (.inr e2)
    · omega
theorem tb_rin2 (t : Tb B w0 w bt i r o s k) (W : Nat) (hW : W < 2) {l' : List Int} {T' : Nat} {F' : Int} {en' : Bool} (h : RinTo B w w' (r W).b (r W).v l' T' F' en') :
    ∃ v', Tb B w0 w' bt i (ext r W ⟨(r W).b, v', l', T', F', en'⟩) o s k ∧ Upd (FI (r W).b (r W).v) w w' ∧ ∀ q, Outs B i r o s k q → q < w.heap.size → Outs B i (ext r W ⟨(r W).b, v', l', T', F', en'⟩) o s k q := by
  obtain ⟨v', h1, h2, h3⟩ := h
  have hT := t.sep.set (a := rinA B ⟨(r W).b, v', l', T', F', en'⟩) (2 + W) (by omega) h2 (fun q _ hq => .inl (by rw [fam_r _ _ _ _ _ _ _ hW]; exact hq)) h1 (rinA_good B _) (fun q hq => by
    rw [fam_r _ _ _ _ _ _ _ hW]
    rcases hq with e | e
    · exact .inl (.inl e)
    · rcases h3 q e with e2 | e2
      · exact .inl (.inr e2)
      · exact .inr (.inl e2))
  have hfo := t.bt_out (2 + W) (by omega)
  have hlow : ∀ q, FI (r W).b (r W).v q → B ≤ q := fun q hq => ((t.sep.lt (2 + W) (by omega) q (by rw [fam_r _ _ _ _ _ _ _ hW]; exact hq))).1
  rw [fam_r _ _ _ _ _ _ _ hW] at hfo
  have e : pres i (ext r W ⟨(r W).b, v', l', T', F', en'⟩) o s = pres i r o s := by
    rcases two_cases hW with rfl | rfl <;> rfl
  refine ⟨v', ⟨hT.congr (fun c hc => fam_er W hW _ c hc), by rw [e]; exact t.tab.upd h2 hfo, t.bel.trans (h2.below B t.base hlow), t.lo, t.frU h2 (fun q hq => .inr (.inr ⟨2 + W, by omega, by rw [fam_r _ _ _ _ _ _ _ hW]; exact hq⟩))⟩, h2, fun q ho hq => outs_rin hW ho _ ?_⟩
  rintro (e | e)
  · exact ho.nr W hW (.inl e)
  · rcases h3 q e with e2 | e2
    · exact ho.nr W hW (.inr e2)
    · omega
end
set_option maxHeartbeats 4000000 in
set_option maxRecDepth 100000 in
theorem inputs_give (wh : Bool) (N wd : Int) (V : Nat) (a : Option Addr) (len cap : Nat) (lb : List Int) (B bt : Nat) (w0 w : World) (i : Nat → InD) (r : Nat → RinD) (o s : Nat → OutD) (k : BkD) (n W : Nat) (t : Hid (Tb B w0 w bt i r o s k)) (l : Hid (Rl i r o s k n)) (hn : n + 1 ≤ 900) (hW : W < 2)
    (hlb : Hid (lb.length = len)) (HRow : Hid (∀ w', Below B w0 w' → Row .u8 w' a lb)) (hnil : Hid (a = none → cap = 0)) (hlen : len ≤ 1000) :
    Calls Try.prog 24 #[.pointer (some ⟨bt, 0, none⟩), .int .i64 W, .agg #[.int .i64 2, .bool wh, .int .i64 N, .int .i64 wd, .int .u64 V, .slice a len cap]] w fun e w' => e = .returned (.bool true) ∧ Hid (Plays B w0 w' bt (n + 1)) := by
  have hW' : (W : Int) < 2 := by omega
  have HL1 : Hid ((i W).h.length + len ≤ 140737488355328 ∧ (r W).l.length + len ≤ 140737488355328 ∧ (r W).l.length ≤ 1000 * n) := by
    have h1 := l.out.len W hW
    have h2 := l.out.h W hW
    refine ⟨?_, by omega, h1⟩
    rw [h2, List.length_drop]
    omega
  obtain ⟨x, hx⟩ : ∃ x : Int, (if (i W).en = true then (30 : Int) else 0) = x := ⟨_, rfl⟩
  have HX1 : Hid ((if (i W).en = true then (30 : Int) else 0) = x) := hx
  have HX2 : Hid ((if (r W).en = true then (30 : Int) else 0) = x) := by show _ = _; rw [← l.out.en W hW]; exact hx
  obtain ⟨h', hh'⟩ : ∃ h', (if (i W).en = true then (i W).h else (i W).h ++ lb) = h' := ⟨_, rfl⟩
  obtain ⟨l', hl'⟩ : ∃ l', (if (r W).en = true then (r W).l else (r W).l ++ lb) = l' := ⟨_, rfl⟩
  have HL2 : Hid (∀ v1 v2, Rl (ext i W ⟨(i W).b, v1, h', (i W).p, (i W).en⟩) (ext r W ⟨(r W).b, v2, l', (r W).T, (r W).F, (r W).en⟩) o s k (n + 1)) := fun v1 v2 => by
    have g1 := l.out.h W hW
    have g3 := HL1.out.2.2
    have g5 := l.out.en W hW
    have g6 := (t.out.rin W hW).le
    refine rl_in l.out W _ _ ?_ (l.out.p W hW) g5 (l.out.f W hW) ?_
    · show h' = l'.drop (r W).T
      rw [← hh', ← hl', g5]
      by_cases c : (r W).en = true
      · rw [if_pos c, if_pos c, g1]
      · rw [if_neg c, if_neg c, g1, List.drop_append_of_le_length g6]
    · show l'.length ≤ 1000 * (n + 1)
      rw [← hl']
      have := hlb.out
      by_cases c : (r W).en = true
      · rw [if_pos c]; omega
      · rw [if_neg c, List.length_append]; omega
  have Hh : Hid _ := hh'
  have Hl : Hid _ := hl'
  clear hx hh' hl'
  go_enter Try.func24, Try.ntmps24
  go_wp2_with fail
  obtain ⟨wB, hwB⟩ : ∃ wB, wB = w.alloc (box 2 wh N wd V a len cap) := ⟨_, rfl⟩
  have hBB : Below w.heap.size w wB := by rw [hwB]; exact (Below.refl _ _).alloc (Nat.le_refl _) _
  have KB : Hid (Blk wB w.heap.size 53 (boxL 2 wh N wd V a len cap)) := by rw [hwB]; exact box_new w _ _ _ _ _ _ _ _
  unfold box at hwB
  rw [← hwB]
  clear hwB
  have tB : Hid (Tb B w0 wB bt i r o s k) := t.out.later hBB
  have HoB : Hid (Outs B i r o s k w.heap.size) := t.out.outs _ (Nat.le_refl _)
  clear t
  --1
  refine (lent_any a len cap lb _ hlb (HRow.out _ tB.out.bel) hnil (by omega)).mono ?_; rintro e w1 ⟨g, c, rfl, hg, HLe, hB1⟩
  have T1 : Hid (Tb B w0 w1 bt i r o s k) := tB.out.later hB1
  have K1 : Hid (Blk w1 w.heap.size 53 (boxL 2 wh N wd V a len cap)) := KB.out.later hB1
  have HoG : Hid (Outs B i r o s k g) := tB.out.outs g hg
  have hgl := HLe.out.lt
  have hgb : bt ≠ g := by have := tB.out.tab.2.lt; omega
  have hgB : B ≤ g ∧ w0.heap.size ≤ g := ⟨Nat.le_trans tB.out.base hg, Nat.le_trans tB.out.bel.size hg⟩
  have hkl := K1.out.lt
  have cI := T1.out.cI W hW
  clear tB KB hB1 hg
  go_wp2_with fail
  --2
  refine (give_any B (i W).b (i W).v (i W).h (i W).p (i W).en (some ⟨g, 0, none⟩) len c lb _ (T1.out.inp W hW) hlb HLe.out.row (fun h => by cases h) HL1.out.1).mono ?_; rintro e w2 ⟨rfl, HI2⟩
  rw [HX1.out]
  rw [Hh.out] at HI2
  obtain ⟨v2, t2, u2, o2⟩ := tb_in2 T1.out W hW HI2.out
  have T2 : Hid _ := t2
  have K2 : Hid (Blk w2 w.heap.size 53 (boxL 2 wh N wd V a len cap)) := K1.out.upd u2 (HoB.out.ni W hW)
  have Le2 : Hid (Lent w2 g c lb) := HLe.out.upd u2 (HoG.out.ni W hW)
  have Og2 : Hid (Outs B (ext i W ⟨(i W).b, v2, h', (i W).p, (i W).en⟩) r o s k g) := o2 g HoG.out hgl
  have Ob2 : Hid (Outs B (ext i W ⟨(i W).b, v2, h', (i W).p, (i W).en⟩) r o s k w.heap.size) := o2 _ HoB.out hkl
  have hgl2 : g < w2.heap.size := Nat.lt_of_lt_of_le hgl u2.size
  have cR := T2.out.cR W hW
  have cB : w2.cell? ⟨w.heap.size, 5, none⟩ = some (.slice a len cap) := K2.out.cell 5
  clear t2 u2 o2 HI2 cI K1 HLe HoG HoB T1 hgl hkl
  go_wp2_with fail
  --3
  go_region_held_law (fun w' => w'.cell? ⟨bt, 2 + W, none⟩ = some (.pointer (some ⟨(r W).b, 0, none⟩)) ∧ w'.cell? ⟨w.heap.size, 5, none⟩ = some (.slice a len cap)) (first | assumption | exact ⟨cR, cB⟩)
    (first
      | (go_at_call 8; refine (num_any _ _).mono ?_; rintro e w' ⟨rfl, rfl⟩)
      | (go_at_call 33; refine (rgive_any B (r W).b (r W).v (r W).l (r W).T (r W).F (r W).en a len cap lb _ ((T2.out.later (Below.refl _ _).drew).rin W hW) hlb (HRow.out _ T2.out.bel.drew) hnil HL1.out.2.1).mono ?_; rintro e w3 ⟨rfl, HR3⟩; rw [HX2.out]; rw [Hl.out] at HR3; obtain ⟨v3, t3, u3, o3⟩ := tb_rin2 (T2.out.later (Below.refl _ _).drew) W hW HR3.out; have T3 : Hid _ := t3; have Le3 : Hid (Lent w3 g c lb) := (Le2.out.later (Below.refl _ _).drew).upd u3 (Og2.out.nr W hW); have K3 : Hid (Blk w3 w.heap.size 53 (boxL 2 wh N wd V a len cap)) := (K2.out.drew).upd u3 (Ob2.out.nr W hW); have Og3 : Hid _ := o3 g Og2.out hgl2; have S3 : w3.cell? ⟨bt, 2 + W, none⟩ = some (.pointer (some ⟨(r W).b, 0, none⟩)) ∧ w3.cell? ⟨w.heap.size, 5, none⟩ = some (.slice a len cap) := ⟨by have h := t3.cR W hW; rw [ext_at] at h; exact h, K3.out.cell 5⟩; clear t3 HR3 o3 u3)
      | (go_at_call 34; refine (over_any g c a len cap lb _ Le3 hlb (HRow.out _ T3.out.bel) (by omega)).mono ?_; rintro e w4 ⟨rfl, hU4⟩; have T4 : Hid _ := tb_upd T3.out g hU4 Og3.out hgb hgB; have S4 : w4.cell? ⟨bt, 2 + W, none⟩ = some (.pointer (some ⟨(r W).b, 0, none⟩)) ∧ w4.cell? ⟨w.heap.size, 5, none⟩ = some (.slice a len cap) := ⟨by have h := T4.out.cR W hW; rw [ext_at] at h; exact h, (K3.out.upd hU4 (blk_ne K3.out (Le3.out.blk.choose_spec.1) (by decide))).cell 5⟩; have L4 : Hid _ := HL2.out v2 v3)
      | (go_at_call 35; refine (same_any B bt w0 _ _ _ o s k (n + 1) W T4 L4 (by omega) hW).mono ?_; rintro e w5 ⟨rfl, hB5⟩; have T5 : Hid _ := T4.out.later hB5; have S5 : w5.cell? ⟨bt, 2 + W, none⟩ = some (.pointer (some ⟨(r W).b, 0, none⟩)) ∧ w5.cell? ⟨w.heap.size, 5, none⟩ = some (.slice a len cap) := ⟨by have h := T5.out.cR W hW; rw [ext_at] at h; exact h, ((K3.out.upd hU4 (blk_ne K3.out (Le3.out.blk.choose_spec.1) (by decide))).later hB5).cell 5⟩))
  all_goals
    go_wp2
    go_ret
    exact ⟨rfl, _, _, _, _, _, T5.out, L4.out⟩
end Go.Proofs.Ytmeplmhngmlnaaa
