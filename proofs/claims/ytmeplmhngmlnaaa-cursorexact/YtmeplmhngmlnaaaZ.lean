/- Calls of an input: End, Skip, others. -/
import Derived.Test.YtmeplmhngmlnaaaY
namespace Go.Proofs.Ytmeplmhngmlnaaa
open Go.RowKit
set_option linter.unusedVariables false

theorem Rl.mono {i : Nat → InD} {r : Nat → RinD} {o s : Nat → OutD} {k : BkD} {n n' : Nat} (l : Rl i r o s k n) (h : n ≤ n') : Rl i r o s k n' :=
  ⟨l.h, l.p, l.en, l.f, fun W hW => by have := l.len W hW; omega, l.ol, l.om, l.m, fun W hW => by have := l.olen W hW; omega, by have := l.kN; omega⟩
/-- What a call leaves. -/
def Plays (B : Nat) (w0 w : World) (bt n : Nat) : Prop := ∃ i r o s k, Tb B w0 w bt i r o s k ∧ Rl i r o s k n
theorem ext_cases {α : Type} (P : Nat → α → Prop) {f : Nat → α} {W : Nat} {x : α} (hx : P W x) (hf : ∀ j, j ≠ W → j < 2 → P j (f j)) : ∀ j, j < 2 → P j (ext f W x j) := by
  intro j hj
  by_cases e : j = W
  · subst e; rw [ext_at]; exact hx
  · rw [ext_ne _ _ _ _ e]; exact hf j e hj
/-- Both inputs turn. -/
theorem rl_in {i : Nat → InD} {r : Nat → RinD} {o s : Nat → OutD} {k : BkD} {n : Nat} (l : Rl i r o s k n) (W : Nat) (d : InD) (e : RinD) (h1 : d.h = e.l.drop e.T) (h2 : e.F + e.T = d.p) (h3 : d.en = e.en) (h4 : 0 ≤ e.F ∧ e.F ≤ 2147483647) (h5 : e.l.length ≤ 1000 * (n + 1)) :
    Rl (ext i W d) (ext r W e) o s k (n + 1) := by
  refine ⟨fun j hj => ?_, fun j hj => ?_, fun j hj => ?_, fun j hj => ?_, fun j hj => ?_, l.ol, l.om, l.m, fun j hj => by have := l.olen j hj; omega, by have := l.kN; omega⟩ <;> by_cases e : j = W
  · subst e; rw [ext_at, ext_at]; exact h1
  · rw [ext_ne _ _ _ _ e, ext_ne _ _ _ _ e]; exact l.h j hj
  · subst e; rw [ext_at, ext_at]; exact h2
  · rw [ext_ne _ _ _ _ e, ext_ne _ _ _ _ e]; exact l.p j hj
  · subst e; rw [ext_at, ext_at]; exact h3
  · rw [ext_ne _ _ _ _ e, ext_ne _ _ _ _ e]; exact l.en j hj
  · subst e; rw [ext_at]; exact h4
  · rw [ext_ne _ _ _ _ e]; exact l.f j hj
  · subst e; rw [ext_at]; exact h5
  · rw [ext_ne _ _ _ _ e]; have := l.len j hj; omega
def box (kind : Int) (wh : Bool) (N wd : Int) (V : Nat) (a : Option Addr) (len cap : Nat) : Obj := .cells #[.int .i64 kind, .bool wh, .int .i64 N, .int .i64 wd, .int .u64 V, .slice a len cap] 53

set_option maxHeartbeats 4000000 in
set_option maxRecDepth 100000 in
theorem inputs_end (wh : Bool) (N wd : Int) (V : Nat) (a : Option Addr) (len cap : Nat) (B bt : Nat) (w0 w : World) (i : Nat → InD) (r : Nat → RinD) (o s : Nat → OutD) (k : BkD) (n W : Nat) (t : Hid (Tb B w0 w bt i r o s k)) (l : Hid (Rl i r o s k n)) (hn : n + 1 ≤ 1000) (hW : W < 2) :
    Calls Try.prog 24 #[.pointer (some ⟨bt, 0, none⟩), .int .i64 W, .agg #[.int .i64 3, .bool wh, .int .i64 N, .int .i64 wd, .int .u64 V, .slice a len cap]] w fun e w' => e = .returned (.bool true) ∧ Hid (Plays B w0 w' bt (n + 1)) := by
  have hW' : (W : Int) < 2 := by omega
  go_enter Try.func24, Try.ntmps24
  go_wp2_with fail
  obtain ⟨wB, hwB⟩ : ∃ wB, wB = w.alloc (box 3 wh N wd V a len cap) := ⟨_, rfl⟩
  have hBB : Below w.heap.size w wB := by rw [hwB]; exact (Below.refl _ _).alloc (Nat.le_refl _) _
  unfold box at hwB
  rw [← hwB]
  clear hwB
  have tB : Hid (Tb B w0 wB bt i r o s k) := t.out.later hBB
  have cI := tB.out.cI W hW
  have cR := tB.out.cR W hW
  obtain ⟨x, hx⟩ : ∃ x : Int, (if (i W).en = true then (30 : Int) else 0) = x := ⟨_, rfl⟩
  have HX1 : Hid ((if (i W).en = true then (30 : Int) else 0) = x) := hx
  have HX2 : Hid ((if (r W).en = true then (30 : Int) else 0) = x) := by show _ = _; rw [← l.out.en W hW]; exact hx
  clear hx
  --1
  go_region_held_law (fun w' => w'.cell? ⟨bt, W, none⟩ = some (.pointer (some ⟨(i W).b, 0, none⟩)) ∧ w'.cell? ⟨bt, 2 + W, none⟩ = some (.pointer (some ⟨(r W).b, 0, none⟩))) (first | assumption | exact ⟨cI, cR⟩)
    (first
      | (go_at_call 22; refine (end_any B (i W).b (i W).v (i W).h (i W).p (i W).en _ ((tB.out.later (Below.refl _ _).drew).inp W hW)).mono ?_; rintro e w1 ⟨rfl, HI1, hU1⟩; rw [HX1.out]; obtain ⟨v1, t1, -⟩ := tb_in (tB.out.later (Below.refl _ _).drew) W hW (⟨_, HI1.out, hU1, fun q hq => .inl hq⟩ : InTo B _ w1 (i W).b (i W).v (i W).h (i W).p true); have T1 : Hid _ := t1; have S1 : w1.cell? ⟨bt, W, none⟩ = some (.pointer (some ⟨(i W).b, 0, none⟩)) ∧ w1.cell? ⟨bt, 2 + W, none⟩ = some (.pointer (some ⟨(r W).b, 0, none⟩)) := ⟨by have h := t1.cI W hW; rw [ext_at] at h; exact h, t1.cR W hW⟩; clear t1 HI1 hU1)
      | (go_at_call 8; refine (num_any _ _).mono ?_; rintro e w' ⟨rfl, rfl⟩)
      | (go_at_call 36; refine (rend_any B (r W).b (r W).v (r W).l (r W).T (r W).F (r W).en _ (T1.out.rin W hW)).mono ?_; rintro e w2 ⟨rfl, HR2⟩; rw [HX2.out]; obtain ⟨v2, t2, -⟩ := tb_rin T1.out W hW HR2.out; have T2 : Hid _ := t2; have S2 : w2.cell? ⟨bt, W, none⟩ = some (.pointer (some ⟨(i W).b, 0, none⟩)) ∧ w2.cell? ⟨bt, 2 + W, none⟩ = some (.pointer (some ⟨(r W).b, 0, none⟩)) := ⟨by have h := t2.cI W hW; rw [ext_at] at h; exact h, by have h := t2.cR W hW; rw [ext_at] at h; exact h⟩; clear t2 HR2; have L2 : Hid _ := rl_in l.out W ⟨(i W).b, v1, (i W).h, (i W).p, true⟩ ⟨(r W).b, v2, (r W).l, (r W).T, (r W).F, true⟩ (l.out.h W hW) (l.out.p W hW) rfl (l.out.f W hW) (by have := l.out.len W hW; show (r W).l.length ≤ _; omega))
      | (go_at_call 35; refine (same_any B bt w0 _ _ _ o s k (n + 1) W T2 L2 hn hW).mono ?_; rintro e w3 ⟨rfl, hB3⟩; have T3 : Hid _ := T2.out.later hB3; have S3 : w3.cell? ⟨bt, W, none⟩ = some (.pointer (some ⟨(i W).b, 0, none⟩)) ∧ w3.cell? ⟨bt, 2 + W, none⟩ = some (.pointer (some ⟨(r W).b, 0, none⟩)) := ⟨by have h := T3.out.cI W hW; rw [ext_at] at h; exact h, by have h := T3.out.cR W hW; rw [ext_at] at h; exact h⟩))
  all_goals
    go_wp2
    go_ret
    exact ⟨rfl, _, _, _, _, _, T3.out, L2.out⟩
end Go.Proofs.Ytmeplmhngmlnaaa
