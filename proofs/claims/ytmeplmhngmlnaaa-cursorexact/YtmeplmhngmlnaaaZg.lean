/- Calls of an output: To, others. -/
import Derived.Test.YtmeplmhngmlnaaaZf
namespace Go.Proofs.Ytmeplmhngmlnaaa
open Go.RowKit
set_option linter.unusedVariables false

/-- Both outputs turn. -/
theorem rl_out {i : Nat → InD} {r : Nat → RinD} {o s : Nat → OutD} {k : BkD} {n : Nat} (l : Rl i r o s k n) (W : Nat) (d e : OutD) (h1 : d.l = e.l) (h2 : d.m = e.m) (h3 : 0 ≤ e.m ∧ e.m ≤ 9223372036854775807) (h4 : e.l.length ≤ 1000 * (n + 1)) :
    Rl i r (ext o W d) (ext s W e) k (n + 1) := by
  refine ⟨l.h, l.p, l.en, l.f, fun j hj => by have := l.len j hj; omega, fun j hj => ?_, fun j hj => ?_, fun j hj => ?_, fun j hj => ?_, by have := l.kN; omega⟩ <;> by_cases e : j = W
  · subst e; rw [ext_at, ext_at]; exact h1
  · rw [ext_ne _ _ _ _ e, ext_ne _ _ _ _ e]; exact l.ol j hj
  · subst e; rw [ext_at, ext_at]; exact h2
  · rw [ext_ne _ _ _ _ e, ext_ne _ _ _ _ e]; exact l.om j hj
  · subst e; rw [ext_at]; exact h3
  · rw [ext_ne _ _ _ _ e]; exact l.m j hj
  · subst e; rw [ext_at]; exact h4
  · rw [ext_ne _ _ _ _ e]; have := l.olen j hj; omega
/-- Another output in the place of one. -/
theorem tb_newo {B bt : Nat} {w0 w : World} {i : Nat → InD} {r : Nat → RinD} {o s : Nat → OutD} {k : BkD} (t : Tb B w0 w bt i r o s k) (W : Nat) (hW : W < 2) (d e : OutD) (hd : OutAt 67 B w d.b d.v d.l d.m) (he : OutAt 84 B w e.b e.v e.l e.m)
    (fd : ∀ q, FI d.b d.v q → ∀ c, c < 9 → ¬ (fam B i r o s k c).foot q) (fe : ∀ q, FI e.b e.v q → ∀ c, c < 9 → ¬ (fam B i r o s k c).foot q) (hde : ∀ q, FI d.b d.v q → ¬ FI e.b e.v q) (hdt : ¬ FI d.b d.v bt) (het : ¬ FI e.b e.v bt) :
    Tb B w0 ((w.setCell ⟨bt, 4 + W, none⟩ (.pointer (some ⟨d.b, 0, none⟩))).setCell ⟨bt, 6 + W, none⟩ (.pointer (some ⟨e.b, 0, none⟩))) bt i r (ext o W d) (ext s W e) k := by
  have u1 : Upd (fun q => q = bt) w (w.setCell ⟨bt, 4 + W, none⟩ (.pointer (some ⟨d.b, 0, none⟩))) := (Upd.refl (fun q => q = bt) w).set _ _ (.inl rfl)
  have u2 : Upd (fun q => q = bt) (w.setCell ⟨bt, 4 + W, none⟩ (.pointer (some ⟨d.b, 0, none⟩))) ((w.setCell ⟨bt, 4 + W, none⟩ (.pointer (some ⟨d.b, 0, none⟩))).setCell ⟨bt, 6 + W, none⟩ (.pointer (some ⟨e.b, 0, none⟩))) := (Upd.refl (fun q => q = bt) _).set _ _ (.inl rfl)
  have s1 : Sep B (w.setCell ⟨bt, 4 + W, none⟩ (.pointer (some ⟨d.b, 0, none⟩))) (fam B i r (ext o W d) s k) := (t.sep.set (a := outA 67 B d) (4 + W) (by omega) u1 (fun q _ hq => .inr (fun c hc => by subst hq; exact t.bt_out c hc)) (hd.upd u1 (fun q hq e => hdt (by rw [← e]; exact hq))) (outA_good 67 B d) (fun q hq => .inr (.inr (fd q hq)))).congr (fun c hc => fam_eo W hW _ c hc)
  have feet : ∀ q, FI e.b e.v q → ∀ c, c < 9 → ¬ (fam B i r (ext o W d) s k c).foot q := fun q hq c hc h => by
    rw [← fam_eo W hW d c hc] at h
    by_cases ec : c = 4 + W
    · subst ec; rw [ext_at] at h; exact hde q h hq
    · rw [ext_ne _ _ _ _ ec] at h; exact fe q hq c hc h
  have btout : ∀ c, c < 9 → ¬ (fam B i r (ext o W d) s k c).foot bt := fun c hc h => by
    rw [← fam_eo W hW d c hc] at h
    by_cases ec : c = 4 + W
    · subst ec; rw [ext_at] at h; exact hdt h
    · rw [ext_ne _ _ _ _ ec] at h; exact t.bt_out c hc h
  have s2 := (s1.set (a := outA 84 B e) (6 + W) (by omega) u2 (fun q _ hq => .inr (fun c hc => by subst hq; exact btout c hc)) ((he.upd u1 (fun q hq e => het (by rw [← e]; exact hq))).upd u2 (fun q hq e => het (by rw [← e]; exact hq))) (outA_good 84 B e) (fun q hq => .inr (.inr (feet q hq)))).congr (fun c hc => fam_es W hW _ c hc)
  refine ⟨s2, ?_, (t.bel.setCell t.lo _).setCell t.lo _, t.lo, t.frU (u1.trans u2 (fun q _ h => h)) (fun q hq => .inl hq)⟩
  have hb := (t.tab.2.set (4 + W) (.pointer (some ⟨d.b, 0, none⟩))).set (6 + W) (.pointer (some ⟨e.b, 0, none⟩))
  refine ⟨rfl, ?_⟩
  rcases two_cases hW with rfl | rfl
  · exact hb
  · exact hb
set_option maxHeartbeats 4000000 in
set_option maxRecDepth 100000 in
theorem outputs_0 (kind : Int) (wh : Bool) (N wd : Int) (V : Nat) (a : Option Addr) (len cap : Nat) (B bt : Nat) (w0 w : World) (i : Nat → InD) (r : Nat → RinD) (o s : Nat → OutD) (k : BkD) (n W : Nat) (t : Hid (Tb B w0 w bt i r o s k)) (l : Hid (Rl i r o s k n))
    (k1 : ¬ kind = 7) (k2 : ¬ kind = 8) (k3 : ¬ kind = 9) (k4 : ¬ kind = 10) :
    Calls Try.prog 25 #[.pointer (some ⟨bt, 0, none⟩), .int .i64 W, .agg #[.int .i64 kind, .bool wh, .int .i64 N, .int .i64 wd, .int .u64 V, .slice a len cap]] w fun e w' => e = .returned (.bool true) ∧ Hid (Plays B w0 w' bt (n + 1)) := by
  have d1 : (kind == 7) = false := by simpa using k1
  have d2 : (kind == 8) = false := by simpa using k2
  have d3 : (kind == 9) = false := by simpa using k3
  have d4 : (kind == 10) = false := by simpa using k4
  go_enter Try.func25, Try.ntmps25
  go_wp2
  go_ret
  exact ⟨rfl, _, _, _, _, _, t.out.later ((Below.refl _ _).alloc (Nat.le_refl _) _), l.out.mono (by omega)⟩
set_option maxHeartbeats 4000000 in
set_option maxRecDepth 100000 in
theorem outputs_to (wh : Bool) (N wd : Int) (V : Nat) (a : Option Addr) (len cap : Nat) (B bt : Nat) (w0 w : World) (i : Nat → InD) (r : Nat → RinD) (o s : Nat → OutD) (k : BkD) (n W : Nat) (t : Hid (Tb B w0 w bt i r o s k)) (l : Hid (Rl i r o s k n)) (hW : W < 2) (hN : N ≤ 9223372036854775807) :
    Calls Try.prog 25 #[.pointer (some ⟨bt, 0, none⟩), .int .i64 W, .agg #[.int .i64 7, .bool wh, .int .i64 N, .int .i64 wd, .int .u64 V, .slice a len cap]] w fun e w' => e = .returned (.bool true) ∧ Hid (Plays B w0 w' bt (n + 1)) := by
  have hW' : (W : Int) < 2 := by omega
  go_enter Try.func25, Try.ntmps25
  go_wp2_with fail
  obtain ⟨wB, hwB⟩ : ∃ wB, wB = w.alloc (box 7 wh N wd V a len cap) := ⟨_, rfl⟩
  have hBB : Below w.heap.size w wB := by rw [hwB]; exact (Below.refl _ _).alloc (Nat.le_refl _) _
  have KB : Hid (Blk wB w.heap.size 53 (boxL 7 wh N wd V a len cap)) := by rw [hwB]; exact box_new w _ _ _ _ _ _ _ _
  unfold box at hwB
  rw [← hwB]
  clear hwB
  have tB : Hid (Tb B w0 wB bt i r o s k) := t.out.later hBB
  clear t
  by_cases hv : 0 ≤ N
  · refine (to_yes N _ hv).mono ?_; rintro e w1 ⟨b1, rfl, hb1, HI1, hB1⟩
    have K1 : Hid (Blk w1 w.heap.size 53 (boxL 7 wh N wd V a len cap)) := KB.out.later hB1
    have c2 : w1.cell? ⟨w.heap.size, 2, none⟩ = some (.int .i64 N) := K1.out.cell 2
    go_wp2_with fail
    refine (rto_yes N _ hv).mono ?_; rintro e w2 ⟨b2, rfl, hb2, HR2, hB2⟩
    have hB12 := below_to hB1 hB2
    have T2 : Hid (Tb B w0 w2 bt i r o s k) := tB.out.later hB12
    have HI2 : Hid _ := (HI1.out.later hB2)
    have c3 := T2.out.cO W hW
    have z3 := T2.out.z (4 + W)
    have c4 := T2.out.cS W hW
    have z4 := T2.out.z (6 + W)
    have hbt2 := tB.out.tab.2.lt
    have TN : Hid _ := tb_newo T2.out W hW ⟨b1, .slice none 0 0, [], N⟩ ⟨b2, .slice none 0 0, [], N⟩ (HI2.out.mono tB.out.base) (HR2.out.mono (Nat.le_trans tB.out.base hB1.size))
      (fun q hq c hc h => by
        have h1 := (tB.out.sep.lt c hc q h).2
        rcases hq with e | hq
        · have e' : q = b1 := e
          omega
        · cases hq)
      (fun q hq c hc h => by
        have h1 := (tB.out.sep.lt c hc q h).2
        have h2 := hB1.size
        rcases hq with e | hq
        · have e' : q = b2 := e
          omega
        · cases hq)
      (fun q hq hq2 => by
        rcases hq with e | hq
        · rcases hq2 with e2 | e2
          · have e3 : q = b1 := e
            have e4 : q = b2 := e2
            have := HI1.out.blk.lt
            omega
          · cases e2
        · cases hq)
      (fun h => by
        rcases h with e | e
        · have e' : bt = b1 := e
          omega
        · cases e)
      (fun h => by
        have h2 := hB1.size
        rcases h with e | e
        · have e' : bt = b2 := e
          omega
        · cases e)
    have LN : Hid _ := rl_out l.out W ⟨b1, .slice none 0 0, [], N⟩ ⟨b2, .slice none 0 0, [], N⟩ rfl rfl ⟨hv, hN⟩ (by simp)
    have c5 : (w2.setCell ⟨bt, 4 + W, none⟩ (.pointer (some ⟨b1, 0, none⟩))).cell? ⟨bt, 6 + W, none⟩ = some (.pointer (some ⟨(s W).b, 0, none⟩)) := by
      rw [World.cell?_setCell_other _ _ _ _ (by intro h; injection h; omega)]
      exact c4
    clear K1 KB HI1 HR2 hB1 hB2 hB12 T2 tB hb1 hb2 HI2 c2
    --1
    go_wp2_with (go_at_call 8; refine (num_any _ _).mono ?_; rintro e w' ⟨rfl, rfl⟩)
    go_ret
    exact ⟨rfl, _, _, _, _, _, TN.out, LN.out⟩
  · refine (to_no N _ hv).mono ?_; rintro e w' ⟨rfl, rfl⟩
    have c2 : wB.cell? ⟨w.heap.size, 2, none⟩ = some (.int .i64 N) := KB.out.cell 2
    go_wp2_with fail
    refine (rto_no N _ (by omega)).mono ?_; rintro e w' ⟨rfl, rfl⟩
    go_wp2_with (go_at_call 8; refine (num_any _ _).mono ?_; rintro e w' ⟨rfl, rfl⟩)
    go_ret
    exact ⟨rfl, _, _, _, _, _, tB.out, l.out.mono (by omega)⟩
end Go.Proofs.Ytmeplmhngmlnaaa
