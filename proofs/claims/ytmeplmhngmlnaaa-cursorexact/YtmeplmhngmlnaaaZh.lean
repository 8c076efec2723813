/- Calls of an output: Patch, Put. -/
import Derived.Test.YtmeplmhngmlnaaaZg
namespace Go.Proofs.Ytmeplmhngmlnaaa
open Go.RowKit
set_option linter.unusedVariables false

section
variable {B bt : Nat} {w0 w w' : World} {i : Nat → InD} {r : Nat → RinD} {o s : Nat → OutD} {k : BkD}
/-- The output turns; what was outside stays so. -/
theorem tb_out2 (t : Tb B w0 w bt i r o s k) (W : Nat) (hW : W < 2) {l' : List Int} {m' : Int} (h : OutTo 67 B w w' (o W).b (o W).v l' m') :
    ∃ v', Tb B w0 w' bt i r (ext o W ⟨(o W).b, v', l', m'⟩) s k ∧ Upd (FI (o W).b (o W).v) w w' ∧ ∀ q, Outs B i r o s k q → q < w.heap.size → Outs B i r (ext o W ⟨(o W).b, v', l', m'⟩) s k q := by
  obtain ⟨v', h1, h2, h3⟩ := h
  obtain ⟨v'', t2, u2⟩ := tb_out t W hW (⟨v', h1, h2, h3⟩ : OutTo 67 B w w' (o W).b (o W).v l' m')
  have e : v'' = v' := by
    have a1 := (t2.out W hW).c0
    rw [ext_at] at a1
    have a2 := h1.c0
    rw [a2] at a1
    exact (Option.some.inj a1).symm
  subst e
  refine ⟨v'', t2, u2, fun q ho hq => outs_out hW ho _ ?_⟩
  rintro (e | e)
  · exact ho.no W hW (.inl e)
  · rcases h3 q e with e2 | e2
    · exact ho.no W hW (.inr e2)
    · omega
theorem tb_rout2 (t : Tb B w0 w bt i r o s k) (W : Nat) (hW : W < 2) {l' : List Int} {m' : Int} (h : OutTo 84 B w w' (s W).b (s W).v l' m') :
    ∃ v', Tb B w0 w' bt i r o (ext s W ⟨(s W).b, v', l', m'⟩) k ∧ Upd (FI (s W).b (s W).v) w w' ∧ ∀ q, Outs B i r o s k q → q < w.heap.size → Outs B i r o (ext s W ⟨(s W).b, v', l', m'⟩) k q := by
  obtain ⟨v', h1, h2, h3⟩ := h
  obtain ⟨v'', t2, u2⟩ := tb_rout t W hW (⟨v', h1, h2, h3⟩ : OutTo 84 B w w' (s W).b (s W).v l' m')
  have e : v'' = v' := by
    have a1 := (t2.rout W hW).c0
    rw [ext_at] at a1
    have a2 := h1.c0
    rw [a2] at a1
    exact (Option.some.inj a1).symm
  subst e
  refine ⟨v'', t2, u2, fun q ho hq => outs_rout hW ho _ ?_⟩
  rintro (e | e)
  · exact ho.ns W hW (.inl e)
  · rcases h3 q e with e2 | e2
    · exact ho.ns W hW (.inr e2)
    · omega
end
set_option maxHeartbeats 4000000 in
set_option maxRecDepth 100000 in
theorem outputs_patch (wh : Bool) (N wd : Int) (V : Nat) (a : Option Addr) (len cap : Nat) (B bt : Nat) (w0 w : World) (i : Nat → InD) (r : Nat → RinD) (o s : Nat → OutD) (k : BkD) (n W : Nat) (t : Hid (Tb B w0 w bt i r o s k)) (l : Hid (Rl i r o s k n)) (hn : n + 1 ≤ 900) (hW : W < 2) (hV : V < 18446744073709551616) :
    Calls Try.prog 25 #[.pointer (some ⟨bt, 0, none⟩), .int .i64 W, .agg #[.int .i64 9, .bool wh, .int .i64 N, .int .i64 wd, .int .u64 V, .slice a len cap]] w fun e w' => e = .returned (.bool true) ∧ Hid (Plays B w0 w' bt (n + 1)) := by
  have hW' : (W : Int) < 2 := by omega
  have HLo : Hid ((o W).l.length ≤ 1000000) := by show _ ≤ _; rw [l.out.ol W hW]; have := l.out.olen W hW; omega
  have HLs : Hid ((s W).l.length ≤ 1000000) := by show _ ≤ _; have := l.out.olen W hW; omega
  obtain ⟨x, hx⟩ : ∃ x, putE (s W).l.length N wd V = x := ⟨_, rfl⟩
  have HX2 : Hid (putE (s W).l.length N wd V = x) := hx
  have HX1 : Hid (putE (o W).l.length N wd V = x) := by show _ = _; rw [l.out.ol W hW]; exact hx
  have HL2 : Hid (∀ v1 v2, Rl i r (ext o W ⟨(o W).b, v1, putR (o W).l N wd V, (o W).m⟩) (ext s W ⟨(s W).b, v2, putR (s W).l N wd V, (s W).m⟩) k (n + 1)) := fun v1 v2 =>
    rl_out l.out W _ _ (by show putR (o W).l N wd V = putR (s W).l N wd V; rw [l.out.ol W hW]) (l.out.om W hW) (l.out.m W hW) (by show (putR (s W).l N wd V).length ≤ _; rw [putR_length]; have := l.out.olen W hW; omega)
  clear hx
  go_enter Try.func25, Try.ntmps25
  go_wp2_with fail
  obtain ⟨wB, hwB⟩ : ∃ wB, wB = w.alloc (box 9 wh N wd V a len cap) := ⟨_, rfl⟩
  have hBB : Below w.heap.size w wB := by rw [hwB]; exact (Below.refl _ _).alloc (Nat.le_refl _) _
  have KB : Hid (Blk wB w.heap.size 53 (boxL 9 wh N wd V a len cap)) := by rw [hwB]; exact box_new w _ _ _ _ _ _ _ _
  unfold box at hwB
  rw [← hwB]
  clear hwB
  have tB : Hid (Tb B w0 wB bt i r o s k) := t.out.later hBB
  have HoB : Hid (Outs B i r o s k w.heap.size) := t.out.outs _ (Nat.le_refl _)
  have hkl := KB.out.lt
  have cO := tB.out.cO W hW
  have cS := tB.out.cS W hW
  have c2 : wB.cell? ⟨w.heap.size, 2, none⟩ = some (.int .i64 N) := KB.out.cell 2
  have c3 : wB.cell? ⟨w.heap.size, 3, none⟩ = some (.int .i64 wd) := KB.out.cell 3
  have c4 : wB.cell? ⟨w.heap.size, 4, none⟩ = some (.int .u64 V) := KB.out.cell 4
  clear t
  --1
  go_region_held_law (fun w' => w'.cell? ⟨bt, 4 + W, none⟩ = some (.pointer (some ⟨(o W).b, 0, none⟩)) ∧ w'.cell? ⟨bt, 6 + W, none⟩ = some (.pointer (some ⟨(s W).b, 0, none⟩)) ∧ w'.cell? ⟨w.heap.size, 2, none⟩ = some (.int .i64 N) ∧ w'.cell? ⟨w.heap.size, 3, none⟩ = some (.int .i64 wd) ∧ w'.cell? ⟨w.heap.size, 4, none⟩ = some (.int .u64 V)) (first | assumption | exact ⟨cO, cS, c2, c3, c4⟩)
    (first
      | (go_at_call 12; refine (patch_any B (o W).b (o W).v (o W).l (o W).m N wd V _ ((tB.out.later (Below.refl _ _).drew).out W hW) HLo hV).mono ?_; rintro e w1 ⟨rfl, HI1⟩; rw [HX1.out]; obtain ⟨v1, t1, u1, o1⟩ := tb_out2 (tB.out.later (Below.refl _ _).drew) W hW HI1.out; have T1 : Hid _ := t1; have K1 : Hid (Blk w1 w.heap.size 53 (boxL 9 wh N wd V a len cap)) := (KB.out.drew).upd u1 (HoB.out.no W hW); have O1 : Hid (Outs B i r (ext o W ⟨(o W).b, v1, putR (o W).l N wd V, (o W).m⟩) s k w.heap.size) := o1 _ HoB.out hkl; have S1 : w1.cell? ⟨bt, 4 + W, none⟩ = some (.pointer (some ⟨(o W).b, 0, none⟩)) ∧ w1.cell? ⟨bt, 6 + W, none⟩ = some (.pointer (some ⟨(s W).b, 0, none⟩)) ∧ w1.cell? ⟨w.heap.size, 2, none⟩ = some (.int .i64 N) ∧ w1.cell? ⟨w.heap.size, 3, none⟩ = some (.int .i64 wd) ∧ w1.cell? ⟨w.heap.size, 4, none⟩ = some (.int .u64 V) := ⟨by have h := t1.cO W hW; rw [ext_at] at h; exact h, t1.cS W hW, K1.out.cell 2, K1.out.cell 3, K1.out.cell 4⟩; clear t1 HI1 u1 o1)
      | (go_at_call 8; refine (num_any _ _).mono ?_; rintro e w' ⟨rfl, rfl⟩)
      | (go_at_call 44; refine (rpatch_any B (s W).b (s W).v (s W).l (s W).m N wd V _ (T1.out.rout W hW) HLs hV).mono ?_; rintro e w2 ⟨rfl, HR2⟩; rw [HX2.out]; obtain ⟨v2, t2, u2, -⟩ := tb_rout2 T1.out W hW HR2.out; have T2 : Hid _ := t2; have K2 : Hid (Blk w2 w.heap.size 53 (boxL 9 wh N wd V a len cap)) := K1.out.upd u2 (O1.out.ns W hW); have S2 : w2.cell? ⟨bt, 4 + W, none⟩ = some (.pointer (some ⟨(o W).b, 0, none⟩)) ∧ w2.cell? ⟨bt, 6 + W, none⟩ = some (.pointer (some ⟨(s W).b, 0, none⟩)) ∧ w2.cell? ⟨w.heap.size, 2, none⟩ = some (.int .i64 N) ∧ w2.cell? ⟨w.heap.size, 3, none⟩ = some (.int .i64 wd) ∧ w2.cell? ⟨w.heap.size, 4, none⟩ = some (.int .u64 V) := ⟨by have h := t2.cO W hW; rw [ext_at] at h; exact h, by have h := t2.cS W hW; rw [ext_at] at h; exact h, K2.out.cell 2, K2.out.cell 3, K2.out.cell 4⟩; clear t2 HR2; have L2 : Hid _ := HL2.out v1 v2))
  all_goals
    go_wp2
    go_ret
    exact ⟨ret_bool (by simp), _, _, _, _, _, T2.out, L2.out⟩
end Go.Proofs.Ytmeplmhngmlnaaa
