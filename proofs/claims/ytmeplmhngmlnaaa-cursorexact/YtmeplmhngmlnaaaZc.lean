/- Calls of an input: New, others. -/
import Derived.Test.YtmeplmhngmlnaaaZb
namespace Go.Proofs.Ytmeplmhngmlnaaa
open Go.RowKit
set_option linter.unusedVariables false

set_option maxHeartbeats 4000000 in
set_option maxRecDepth 100000 in
theorem inputs_0 (kind : Int) (wh : Bool) (N wd : Int) (V : Nat) (a : Option Addr) (len cap : Nat) (B bt : Nat) (w0 w : World) (i : Nat → InD) (r : Nat → RinD) (o s : Nat → OutD) (k : BkD) (n W : Nat) (t : Hid (Tb B w0 w bt i r o s k)) (l : Hid (Rl i r o s k n))
    (k1 : ¬ kind = 1) (k2 : ¬ kind = 2) (k3 : ¬ kind = 3) (k4 : ¬ kind = 4) (k5 : ¬ kind = 5) (k6 : ¬ kind = 6) :
    Calls Try.prog 24 #[.pointer (some ⟨bt, 0, none⟩), .int .i64 W, .agg #[.int .i64 kind, .bool wh, .int .i64 N, .int .i64 wd, .int .u64 V, .slice a len cap]] w fun e w' => e = .returned (.bool true) ∧ Hid (Plays B w0 w' bt (n + 1)) := by
  have d1 : (kind == 1) = false := by simpa using k1
  have d2 : (kind == 2) = false := by simpa using k2
  have d3 : (kind == 3) = false := by simpa using k3
  have d4 : (kind == 4) = false := by simpa using k4
  have d5 : (kind == 5) = false := by simpa using k5
  have d6 : (kind == 6) = false := by simpa using k6
  go_enter Try.func24, Try.ntmps24
  go_wp2
  go_ret
  exact ⟨rfl, _, _, _, _, _, t.out.later ((Below.refl _ _).alloc (Nat.le_refl _) _), l.out.mono (by omega)⟩
set_option maxHeartbeats 4000000 in
set_option maxRecDepth 100000 in
theorem inputs_new (wh : Bool) (N wd : Int) (V : Nat) (a : Option Addr) (len cap : Nat) (B bt : Nat) (w0 w : World) (i : Nat → InD) (r : Nat → RinD) (o s : Nat → OutD) (k : BkD) (n W : Nat) (t : Hid (Tb B w0 w bt i r o s k)) (l : Hid (Rl i r o s k n)) (hW : W < 2) :
    Calls Try.prog 24 #[.pointer (some ⟨bt, 0, none⟩), .int .i64 W, .agg #[.int .i64 1, .bool wh, .int .i64 N, .int .i64 wd, .int .u64 V, .slice a len cap]] w fun e w' => e = .returned (.bool true) ∧ Hid (Plays B w0 w' bt (n + 1)) := by
  have hW' : (W : Int) < 2 := by omega
  go_enter Try.func24, Try.ntmps24
  go_wp2_with fail
  obtain ⟨wB, hwB⟩ : ∃ wB, wB = w.alloc (box 1 wh N wd V a len cap) := ⟨_, rfl⟩
  have hBB : Below w.heap.size w wB := by rw [hwB]; exact (Below.refl _ _).alloc (Nat.le_refl _) _
  have KB : Hid (Blk wB w.heap.size 53 (boxL 1 wh N wd V a len cap)) := by rw [hwB]; exact box_new w _ _ _ _ _ _ _ _
  unfold box at hwB
  rw [← hwB]
  clear hwB
  have tB : Hid (Tb B w0 wB bt i r o s k) := t.out.later hBB
  clear t
  by_cases hv : 0 ≤ N ∧ N ≤ 2147483647
  · refine (new_yes N _ hv.1 hv.2).mono ?_; rintro e w1 ⟨b1, rfl, hb1, HI1, hB1⟩
    have K1 : Hid (Blk w1 w.heap.size 53 (boxL 1 wh N wd V a len cap)) := KB.out.later hB1
    have c2 : w1.cell? ⟨w.heap.size, 2, none⟩ = some (.int .i64 N) := K1.out.cell 2
    go_wp2_with fail
    refine (rnew_yes N _ hv.1 hv.2).mono ?_; rintro e w2 ⟨b2, rfl, hb2, HR2, hB2⟩
    have hB12 := below_to hB1 hB2
    have T2 : Hid (Tb B w0 w2 bt i r o s k) := tB.out.later hB12
    have HI2 : Hid _ := (HI1.out.later hB2)
    have c3 := T2.out.cI W hW
    have z3 := T2.out.z W
    have c4 := T2.out.cR W hW
    have z4 := T2.out.z (2 + W)
    have hbt2 := tB.out.tab.2.lt
    have TN : Hid _ := tb_new T2.out W hW ⟨b1, .slice none 0 0, [], N, false⟩ ⟨b2, .slice none 0 0, [], 0, N, false⟩ (HI2.out.mono tB.out.base) (HR2.out.mono (Nat.le_trans tB.out.base hB1.size))
      (fun q hq c hc h => by
        have h1 := (tB.out.sep.lt c hc q h).2
        rcases hq with e | hq
        · have e' : q = b1 := e
          omega
        · cases hq)
      (fun q hq c hc h => by
        have h1 := (tB.out.sep.lt c hc q h).2
        have h2 := hB1.size
        rcases hq with e | hq
        · have e' : q = b2 := e
          omega
        · cases hq)
      (fun q hq hq2 => by
        rcases hq with e | hq
        · rcases hq2 with e2 | e2
          · have e3 : q = b1 := e
            have e4 : q = b2 := e2
            have := HI1.out.blk.lt
            omega
          · cases e2
        · cases hq)
      (fun h => by
        rcases h with e | e
        · have e' : bt = b1 := e
          omega
        · cases e)
      (fun h => by
        have h2 := hB1.size
        rcases h with e | e
        · have e' : bt = b2 := e
          omega
        · cases e)
    have LN : Hid _ := rl_in l.out W ⟨b1, .slice none 0 0, [], N, false⟩ ⟨b2, .slice none 0 0, [], 0, N, false⟩ rfl (by simp) rfl hv (by simp)
    have c5 : (w2.setCell ⟨bt, W, none⟩ (.pointer (some ⟨b1, 0, none⟩))).cell? ⟨bt, 2 + W, none⟩ = some (.pointer (some ⟨(r W).b, 0, none⟩)) := by
      rw [World.cell?_setCell_other _ _ _ _ (by intro h; injection h; omega)]
      exact c4
    clear K1 KB HI1 HR2 hB1 hB2 hB12 T2 tB hb1 hb2 HI2 c2
    --1
    go_wp2_with (go_at_call 8; refine (num_any _ _).mono ?_; rintro e w' ⟨rfl, rfl⟩)
    go_ret
    exact ⟨rfl, _, _, _, _, _, TN.out, LN.out⟩
  · refine (new_no N _ hv).mono ?_; rintro e w' ⟨rfl, rfl⟩
    have c2 : wB.cell? ⟨w.heap.size, 2, none⟩ = some (.int .i64 N) := KB.out.cell 2
    go_wp2_with fail
    refine (rnew_no N _ hv).mono ?_; rintro e w' ⟨rfl, rfl⟩
    go_wp2_with (go_at_call 8; refine (num_any _ _).mono ?_; rintro e w' ⟨rfl, rfl⟩)
    go_ret
    exact ⟨rfl, _, _, _, _, _, tB.out, l.out.mono (by omega)⟩
end Go.Proofs.Ytmeplmhngmlnaaa
