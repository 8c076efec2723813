/- Calls of an input: Take, New, others. -/
import Derived.Test.YtmeplmhngmlnaaaZa
namespace Go.Proofs.Ytmeplmhngmlnaaa
open Go.RowKit
set_option linter.unusedVariables false

set_option maxHeartbeats 4000000 in
set_option maxRecDepth 100000 in
theorem inputs_take (wh : Bool) (N wd : Int) (V : Nat) (a : Option Addr) (len cap : Nat) (B bt : Nat) (w0 w : World) (i : Nat → InD) (r : Nat → RinD) (o s : Nat → OutD) (k : BkD) (n W : Nat) (t : Hid (Tb B w0 w bt i r o s k)) (l : Hid (Rl i r o s k n)) (hn : n + 1 ≤ 1000) (hW : W < 2) :
    Calls Try.prog 24 #[.pointer (some ⟨bt, 0, none⟩), .int .i64 W, .agg #[.int .i64 4, .bool wh, .int .i64 N, .int .i64 wd, .int .u64 V, .slice a len cap]] w fun e w' => e = .returned (.bool true) ∧ Hid (Plays B w0 w' bt (n + 1)) := by
  have hW' : (W : Int) < 2 := by omega
  obtain ⟨K, hK⟩ : ∃ K, (i W).h.length = K := ⟨_, rfl⟩
  have HK2 : Hid (((r W).l.drop (r W).T).length = K) := by show _ = _; rw [← l.out.h W hW]; exact hK
  have HL : Hid ((r W).l.length ≤ 1000000) := by show _ ≤ _; have := l.out.len W hW; omega
  have HTl : Hid ((r W).T + K = (r W).l.length) := by show _ = _; have h1 := HK2.out; have h2 := (t.out.rin W hW).le; rw [List.length_drop] at h1; omega
  have HP : Hid (0 ≤ (i W).p ∧ (i W).p + (i W).h.length ≤ 9223372036854775807) := by
    have h1 := l.out.p W hW
    have h2 := l.out.f W hW
    have h3 := HTl.out
    have h4 := HL.out
    exact ⟨by omega, by rw [hK]; omega⟩
  obtain ⟨X, hX⟩ : ∃ X, (i W).h.getD 0 0 = X := ⟨_, rfl⟩
  have HX1 : Hid ((i W).h.getD 0 0 = X) := hX
  have HX2 : Hid (((r W).l.drop (r W).T).getD 0 0 = X) := by show _ = _; rw [← l.out.h W hW]; exact hX
  obtain ⟨bb, hbb⟩ : ∃ bb, decide (0 < K) = bb := ⟨_, rfl⟩
  have HY2 : Hid (decide (0 < K) = bb) := hbb
  have HY1 : Hid (decide (0 < (i W).h.length) = bb) := by show _ = _; rw [hK]; exact hbb
  obtain ⟨p', hp'⟩ : ∃ p', (if 0 < (i W).h.length then (i W).p + 1 else (i W).p) = p' := ⟨_, rfl⟩
  obtain ⟨T', hT'⟩ : ∃ T', (if 0 < K then (r W).T + 1 else (r W).T) = T' := ⟨_, rfl⟩
  have HL2 : Hid (∀ v1 v2, Rl (ext i W ⟨(i W).b, v1, (i W).h.drop 1, p', (i W).en⟩) (ext r W ⟨(r W).b, v2, (r W).l, T', (r W).F, (r W).en⟩) o s k (n + 1)) := fun v1 v2 => by
    have g1 := l.out.h W hW
    have g2 := l.out.p W hW
    have g3 := l.out.len W hW
    refine rl_in l.out W _ _ ?_ ?_ (l.out.en W hW) (l.out.f W hW) (by show (r W).l.length ≤ _; omega)
    · show (i W).h.drop 1 = (r W).l.drop T'
      rw [← hT']
      by_cases c : 0 < K
      · rw [if_pos c, g1, List.drop_drop]
      · rw [if_neg c, ← g1, List.length_eq_zero_iff.1 (show (i W).h.length = 0 by omega)]
        rfl
    · show (r W).F + T' = p'
      rw [← hp', ← hT', hK]
      by_cases c : 0 < K
      · rw [if_pos c, if_pos c]; omega
      · rw [if_neg c, if_neg c]; exact g2
  have Hp : Hid _ := hp'
  have HT : Hid _ := hT'
  clear hX hbb hp' hT' hK
  go_enter Try.func24, Try.ntmps24
  obtain ⟨wB, hwB⟩ : ∃ wB, wB = w.alloc (box 4 wh N wd V a len cap) := ⟨_, rfl⟩
  have hBB : Below w.heap.size w wB := by rw [hwB]; exact (Below.refl _ _).alloc (Nat.le_refl _) _
  have tB : Hid (Tb B w0 wB bt i r o s k) := t.out.later hBB
  have cI := tB.out.cI W hW
  have cw := t.out.cI W hW
  have hbt := t.out.tab.2.lt
  unfold box at hwB
  go_wp2_with fail
  rw [← hwB]
  --1
  refine (take_any B (i W).b (i W).v (i W).h (i W).p (i W).en _ (tB.out.inp W hW) HP.out.1 HP.out.2).mono ?_; rintro e w1 ⟨rfl, HI1⟩
  rw [HX1.out, HY1.out]
  rw [Hp.out] at HI1
  obtain ⟨v1, t1, -⟩ := tb_in tB.out W hW HI1.out
  have T1 : Hid _ := t1
  have cR := t1.cR W hW
  clear t1 HI1 cI cw hwB hbt tB
  go_wp2_with fail
  refine (rtake_any B (r W).b (r W).v (r W).l (r W).T (r W).F (r W).en _ K HK2 (T1.out.rin W hW) HL).mono ?_; rintro e w2 ⟨rfl, HR2⟩
  rw [HX2.out, HY2.out]
  rw [HT.out] at HR2
  obtain ⟨v2, t2, -⟩ := tb_rin T1.out W hW HR2.out
  have T2 : Hid _ := t2
  have L2 : Hid _ := HL2.out v1 v2
  clear t2 HR2 cR T1
  go_wp2_with fail
  refine (same_any B bt w0 _ _ _ o s k (n + 1) W T2 L2 hn hW).mono ?_; rintro e w3 ⟨rfl, hB3⟩
  go_wp2
  go_ret
  exact ⟨ret_bool (by simp), _, _, _, _, _, T2.out.later hB3, L2.out⟩

/-- Another input in the place of one. -/
theorem tb_new {B bt : Nat} {w0 w : World} {i : Nat → InD} {r : Nat → RinD} {o s : Nat → OutD} {k : BkD} (t : Tb B w0 w bt i r o s k) (W : Nat) (hW : W < 2) (d : InD) (e : RinD) (hd : InAt B w d.b d.v d.h d.p d.en) (he : RinAt B w e.b e.v e.l e.T e.F e.en)
    (fd : ∀ q, FI d.b d.v q → ∀ c, c < 9 → ¬ (fam B i r o s k c).foot q) (fe : ∀ q, FI e.b e.v q → ∀ c, c < 9 → ¬ (fam B i r o s k c).foot q) (hde : ∀ q, FI d.b d.v q → ¬ FI e.b e.v q) (hdt : ¬ FI d.b d.v bt) (het : ¬ FI e.b e.v bt) :
    Tb B w0 ((w.setCell ⟨bt, W, none⟩ (.pointer (some ⟨d.b, 0, none⟩))).setCell ⟨bt, 2 + W, none⟩ (.pointer (some ⟨e.b, 0, none⟩))) bt (ext i W d) (ext r W e) o s k := by
  have u1 : Upd (fun q => q = bt) w (w.setCell ⟨bt, W, none⟩ (.pointer (some ⟨d.b, 0, none⟩))) := (Upd.refl (fun q => q = bt) w).set _ _ (.inl rfl)
  have u2 : Upd (fun q => q = bt) (w.setCell ⟨bt, W, none⟩ (.pointer (some ⟨d.b, 0, none⟩))) ((w.setCell ⟨bt, W, none⟩ (.pointer (some ⟨d.b, 0, none⟩))).setCell ⟨bt, 2 + W, none⟩ (.pointer (some ⟨e.b, 0, none⟩))) := (Upd.refl (fun q => q = bt) _).set _ _ (.inl rfl)
  have s1 : Sep B (w.setCell ⟨bt, W, none⟩ (.pointer (some ⟨d.b, 0, none⟩))) (fam B (ext i W d) r o s k) := (t.sep.set (a := inA B d) W (by omega) u1 (fun q _ hq => .inr (fun c hc => by subst hq; exact t.bt_out c hc)) (hd.upd u1 (fun q hq e => hdt (by rw [← e]; exact hq))) (inA_good B d) (fun q hq => .inr (.inr (fd q hq)))).congr (fun c hc => fam_ei W hW _ c hc)
  have feet : ∀ q, FI e.b e.v q → ∀ c, c < 9 → ¬ (fam B (ext i W d) r o s k c).foot q := fun q hq c hc h => by
    rw [← fam_ei W hW d c hc] at h
    by_cases ec : c = W
    · subst ec; rw [ext_at] at h; exact hde q h hq
    · rw [ext_ne _ _ _ _ ec] at h; exact fe q hq c hc h
  have btout : ∀ c, c < 9 → ¬ (fam B (ext i W d) r o s k c).foot bt := fun c hc h => by
    rw [← fam_ei W hW d c hc] at h
    by_cases ec : c = W
    · subst ec; rw [ext_at] at h; exact hdt h
    · rw [ext_ne _ _ _ _ ec] at h; exact t.bt_out c hc h
  have s2 := (s1.set (a := rinA B e) (2 + W) (by omega) u2 (fun q _ hq => .inr (fun c hc => by subst hq; exact btout c hc)) ((he.upd u1 (fun q hq e => het (by rw [← e]; exact hq))).upd u2 (fun q hq e => het (by rw [← e]; exact hq))) (rinA_good B e) (fun q hq => .inr (.inr (feet q hq)))).congr (fun c hc => fam_er W hW _ c hc)
  refine ⟨s2, ?_, (t.bel.setCell t.lo _).setCell t.lo _, t.lo, t.frU (u1.trans u2 (fun q _ h => h)) (fun q hq => .inl hq)⟩
  have hb := (t.tab.2.set W (.pointer (some ⟨d.b, 0, none⟩))).set (2 + W) (.pointer (some ⟨e.b, 0, none⟩))
  refine ⟨rfl, ?_⟩
  rcases two_cases hW with rfl | rfl
  · exact hb
  · exact hb
end Go.Proofs.Ytmeplmhngmlnaaa
