/- Calls of an input: Skip, Take. -/
import Derived.Test.YtmeplmhngmlnaaaZ
namespace Go.Proofs.Ytmeplmhngmlnaaa
open Go.RowKit
set_option linter.unusedVariables false

def boxL (kind : Int) (wh : Bool) (N wd : Int) (V : Nat) (a : Option Addr) (len cap : Nat) : List Value := [.int .i64 kind, .bool wh, .int .i64 N, .int .i64 wd, .int .u64 V, .slice a len cap]
theorem box_new (w : World) (kind : Int) (wh : Bool) (N wd : Int) (V : Nat) (a : Option Addr) (len cap : Nat) : Blk (w.alloc (box kind wh N wd V a len cap)) w.heap.size 53 (boxL kind wh N wd V a len cap) := Blk.newA w _ _

set_option maxHeartbeats 4000000 in
set_option maxRecDepth 100000 in
theorem inputs_skip (wh : Bool) (N wd : Int) (V : Nat) (a : Option Addr) (len cap : Nat) (B bt : Nat) (w0 w : World) (i : Nat → InD) (r : Nat → RinD) (o s : Nat → OutD) (k : BkD) (n W : Nat) (t : Hid (Tb B w0 w bt i r o s k)) (l : Hid (Rl i r o s k n)) (hn : n + 1 ≤ 1000) (hW : W < 2) :
    Calls Try.prog 24 #[.pointer (some ⟨bt, 0, none⟩), .int .i64 W, .agg #[.int .i64 6, .bool wh, .int .i64 N, .int .i64 wd, .int .u64 V, .slice a len cap]] w fun e w' => e = .returned (.bool true) ∧ Hid (Plays B w0 w' bt (n + 1)) := by
  have hW' : (W : Int) < 2 := by omega
  obtain ⟨K, hK⟩ : ∃ K, (i W).h.length = K := ⟨_, rfl⟩
  have HK : Hid ((i W).h.length = K) := hK
  have HK2 : Hid (((r W).l.drop (r W).T).length = K) := by show _ = _; rw [← l.out.h W hW]; exact hK
  have HL : Hid ((r W).l.length ≤ 1000000) := by show _ ≤ _; have := l.out.len W hW; omega
  have HTl : Hid ((r W).T + K = (r W).l.length) := by show _ = _; have h1 := HK2.out; have h2 := (t.out.rin W hW).le; rw [List.length_drop] at h1; omega
  have HP : Hid (0 ≤ (i W).p ∧ (i W).p + (i W).h.length ≤ 9223372036854775807) := by
    have h1 := l.out.p W hW
    have h2 := l.out.f W hW
    have h3 := HTl.out
    have h4 := HL.out
    exact ⟨by omega, by rw [hK]; omega⟩
  clear hK
  go_enter Try.func24, Try.ntmps24
  go_wp2_with fail
  obtain ⟨wB, hwB⟩ : ∃ wB, wB = w.alloc (box 6 wh N wd V a len cap) := ⟨_, rfl⟩
  have hBB : Below w.heap.size w wB := by rw [hwB]; exact (Below.refl _ _).alloc (Nat.le_refl _) _
  have KB : Hid (Blk wB w.heap.size 53 (boxL 6 wh N wd V a len cap)) := by rw [hwB]; exact box_new w _ _ _ _ _ _ _ _
  unfold box at hwB
  rw [← hwB]
  clear hwB
  have tB : Hid (Tb B w0 wB bt i r o s k) := t.out.later hBB
  have cI := tB.out.cI W hW
  have cR := tB.out.cR W hW
  have cN : wB.cell? ⟨w.heap.size, 2, none⟩ = some (.int .i64 N) := KB.out.cell 2
  have HF1 : Hid (¬ FI (i W).b (i W).v w.heap.size) := fun h => by have := ((t.out.inp W hW).fi _ h).2; omega
  have HF2 : Hid (¬ FI (r W).b (r W).v w.heap.size) := fun h => by have := ((t.out.rin W hW).fi _ h).2; omega
  obtain ⟨x, hx⟩ : ∃ x : Int, (if 0 ≤ N ∧ N ≤ (K : Int) then (0 : Int) else 3) = x := ⟨_, rfl⟩
  have HX : Hid ((if 0 ≤ N ∧ N ≤ (K : Int) then (0 : Int) else 3) = x) := hx
  have HX1 : Hid ((if 0 ≤ N ∧ N ≤ ((i W).h.length : Int) then (0 : Int) else 3) = x) := by show _ = _; rw [HK.out]; exact hx
  obtain ⟨h', hh'⟩ : ∃ h', (if 0 ≤ N ∧ N ≤ ((i W).h.length : Int) then (i W).h.drop N.toNat else (i W).h) = h' := ⟨_, rfl⟩
  obtain ⟨p', hp'⟩ : ∃ p', (if 0 ≤ N ∧ N ≤ ((i W).h.length : Int) then (i W).p + N else (i W).p) = p' := ⟨_, rfl⟩
  obtain ⟨T', hT'⟩ : ∃ T', (if 0 ≤ N ∧ N ≤ (K : Int) then (r W).T + N.toNat else (r W).T) = T' := ⟨_, rfl⟩
  have HL2 : Hid (∀ v1 v2, Rl (ext i W ⟨(i W).b, v1, h', p', (i W).en⟩) (ext r W ⟨(r W).b, v2, (r W).l, T', (r W).F, (r W).en⟩) o s k (n + 1)) := fun v1 v2 => by
    have g1 := l.out.h W hW
    have g2 := l.out.p W hW
    have g3 := l.out.len W hW
    have g4 := HK.out
    refine rl_in l.out W _ _ ?_ ?_ (l.out.en W hW) (l.out.f W hW) (by show (r W).l.length ≤ _; omega)
    · show h' = (r W).l.drop T'
      rw [← hh', ← hT', g4]
      by_cases c : 0 ≤ N ∧ N ≤ (K : Int)
      · rw [if_pos c, if_pos c, g1, List.drop_drop]
      · rw [if_neg c, if_neg c, g1]
    · show (r W).F + T' = p'
      rw [← hp', ← hT', g4]
      by_cases c : 0 ≤ N ∧ N ≤ (K : Int)
      · rw [if_pos c, if_pos c]; omega
      · rw [if_neg c, if_neg c]; exact g2
  have Hh : Hid _ := hh'
  have Hp : Hid _ := hp'
  have HT : Hid _ := hT'
  clear hx hh' hp' hT'
  --1
  go_region_held_law (fun w' => w'.cell? ⟨bt, W, none⟩ = some (.pointer (some ⟨(i W).b, 0, none⟩)) ∧ w'.cell? ⟨bt, 2 + W, none⟩ = some (.pointer (some ⟨(r W).b, 0, none⟩)) ∧ w'.cell? ⟨w.heap.size, 2, none⟩ = some (.int .i64 N)) (first | assumption | exact ⟨cI, cR, cN⟩)
    (first
      | (go_at_call 17; refine (skip_any B (i W).b (i W).v (i W).h (i W).p (i W).en N _ ((tB.out.later (Below.refl _ _).drew).inp W hW) HP.out.1 HP.out.2).mono ?_; rintro e w1 ⟨rfl, HI1⟩; rw [HX1.out]; rw [Hh.out, Hp.out] at HI1; obtain ⟨v1, t1, u1⟩ := tb_in (tB.out.later (Below.refl _ _).drew) W hW HI1.out; have T1 : Hid _ := t1; have K1 : Hid (Blk w1 w.heap.size 53 (boxL 6 wh N wd V a len cap)) := (KB.out.drew).upd u1 HF1.out; have S1 : w1.cell? ⟨bt, W, none⟩ = some (.pointer (some ⟨(i W).b, 0, none⟩)) ∧ w1.cell? ⟨bt, 2 + W, none⟩ = some (.pointer (some ⟨(r W).b, 0, none⟩)) ∧ w1.cell? ⟨w.heap.size, 2, none⟩ = some (.int .i64 N) := ⟨by have h := t1.cI W hW; rw [ext_at] at h; exact h, t1.cR W hW, K1.out.cell 2⟩; clear t1 HI1 u1)
      | (go_at_call 8; refine (num_any _ _).mono ?_; rintro e w' ⟨rfl, rfl⟩)
      | (go_at_call 40; refine (rskip_any B (r W).b (r W).v (r W).l (r W).T (r W).F (r W).en N _ K HK2 (T1.out.rin W hW) HL).mono ?_; rintro e w2 ⟨rfl, HR2⟩; rw [HX.out]; rw [HT.out] at HR2; obtain ⟨v2, t2, u2⟩ := tb_rin T1.out W hW HR2.out; have T2 : Hid _ := t2; have S2 : w2.cell? ⟨bt, W, none⟩ = some (.pointer (some ⟨(i W).b, 0, none⟩)) ∧ w2.cell? ⟨bt, 2 + W, none⟩ = some (.pointer (some ⟨(r W).b, 0, none⟩)) ∧ w2.cell? ⟨w.heap.size, 2, none⟩ = some (.int .i64 N) := ⟨by have h := t2.cI W hW; rw [ext_at] at h; exact h, by have h := t2.cR W hW; rw [ext_at] at h; exact h, (K1.out.upd u2 HF2.out).cell 2⟩; clear t2 HR2; have L2 : Hid _ := HL2.out v1 v2)
      | (go_at_call 35; refine (same_any B bt w0 _ _ _ o s k (n + 1) W T2 L2 hn hW).mono ?_; rintro e w3 ⟨rfl, hB3⟩; have T3 : Hid _ := T2.out.later hB3; have S3 : w3.cell? ⟨bt, W, none⟩ = some (.pointer (some ⟨(i W).b, 0, none⟩)) ∧ w3.cell? ⟨bt, 2 + W, none⟩ = some (.pointer (some ⟨(r W).b, 0, none⟩)) ∧ w3.cell? ⟨w.heap.size, 2, none⟩ = some (.int .i64 N) := ⟨by have h := T3.out.cI W hW; rw [ext_at] at h; exact h, by have h := T3.out.cR W hW; rw [ext_at] at h; exact h, ((K1.out.upd u2 HF2.out).later hB3).cell 2⟩))
  all_goals
    go_wp2
    go_ret
    exact ⟨rfl, _, _, _, _, _, T3.out, L2.out⟩
end Go.Proofs.Ytmeplmhngmlnaaa
