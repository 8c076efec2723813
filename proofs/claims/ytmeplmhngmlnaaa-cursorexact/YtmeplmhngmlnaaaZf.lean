/- Calls of an input: Peek of what is not there; all together. -/
import Derived.Test.YtmeplmhngmlnaaaZe
namespace Go.Proofs.Ytmeplmhngmlnaaa
open Go.RowKit
set_option linter.unusedVariables false

set_option maxHeartbeats 8000000 in
set_option maxRecDepth 100000 in
theorem inputs_peek_no (wh : Bool) (N : Int) (wd : Int) (V : Nat) (a : Option Addr) (len cap : Nat) (B bt : Nat) (w0 w : World) (i : Nat → InD) (r : Nat → RinD) (o s : Nat → OutD) (k : BkD) (n W : Nat) (t : Hid (Tb B w0 w bt i r o s k)) (l : Hid (Rl i r o s k n)) (hn : n + 1 ≤ 900) (hW : W < 2) (hm : Hid (¬ (0 ≤ N ∧ N ≤ ((i W).h.length : Int)))) :
    Calls Try.prog 24 #[.pointer (some ⟨bt, 0, none⟩), .int .i64 W, .agg #[.int .i64 5, .bool wh, .int .i64 N, .int .i64 wd, .int .u64 V, .slice a len cap]] w fun e w' => e = .returned (.bool true) ∧ Hid (Plays B w0 w' bt (n + 1)) := by
  have hW' : (W : Int) < 2 := by omega
  obtain ⟨K, hK⟩ : ∃ K, (i W).h.length = K := ⟨_, rfl⟩
  have HK2 : Hid (((r W).l.drop (r W).T).length = K) := by show _ = _; rw [← l.out.h W hW]; exact hK
  have HL : Hid ((r W).l.length ≤ 1000000) := by show _ ≤ _; have := l.out.len W hW; omega
  have hmK : Hid (¬ (0 ≤ N ∧ N ≤ (K : Int))) := by show ¬ _; rw [← hK]; exact hm.out
  have HkN : Hid (k.N ≤ 2 * n) := l.out.kN
  clear hK
  go_enter Try.func24, Try.ntmps24
  go_wp2_with fail
  obtain ⟨wB, hwB⟩ : ∃ wB, wB = w.alloc (box 5 wh N wd V a len cap) := ⟨_, rfl⟩
  have hBB : Below w.heap.size w wB := by rw [hwB]; exact (Below.refl _ _).alloc (Nat.le_refl _) _
  have KB : Hid (Blk wB w.heap.size 53 (boxL 5 wh N wd V a len cap)) := by rw [hwB]; exact box_new w _ _ _ _ _ _ _ _
  unfold box at hwB
  rw [← hwB]
  clear hwB
  have tB : Hid (Tb B w0 wB bt i r o s k) := t.out.later hBB
  clear t
  have cI := tB.out.cI W hW
  have cR := tB.out.cR W hW
  have cN : wB.cell? ⟨w.heap.size, 2, none⟩ = some (.int .i64 N) := KB.out.cell 2
  --1
  go_region_held_law (fun w' => w'.cell? ⟨bt, W, none⟩ = some (.pointer (some ⟨(i W).b, 0, none⟩)) ∧ w'.cell? ⟨w.heap.size, 2, none⟩ = some (.int .i64 N)) (first | assumption | exact ⟨cI, cN⟩)
    (first | (go_at_call 16; refine (peek_no B (i W).b (i W).v (i W).h (i W).p (i W).en N _ ((tB.out.later (Below.refl _ _).drew).inp W hW) hm.out).mono ?_; rintro e w' ⟨rfl, rfl⟩))
  go_wp2_with fail
  go_region_held_law (fun w' => w'.cell? ⟨bt, W, none⟩ = some (.pointer (some ⟨(i W).b, 0, none⟩)) ∧ w'.cell? ⟨w.heap.size, 2, none⟩ = some (.int .i64 N)) (first | assumption | exact ⟨cI, cN⟩)
    (first | (go_at_call 16; refine (peek_no B (i W).b (i W).v (i W).h (i W).p (i W).en N _ ((tB.out.later (Below.refl _ _).drew.drew).inp W hW) hm.out).mono ?_; rintro e w' ⟨rfl, rfl⟩))
  go_wp2_with fail
  go_region_held_law (fun w' => w'.cell? ⟨bt, 2 + W, none⟩ = some (.pointer (some ⟨(r W).b, 0, none⟩)) ∧ w'.cell? ⟨w.heap.size, 2, none⟩ = some (.int .i64 N)) (first | assumption | exact ⟨cR, cN⟩)
    (first | (go_at_call 38; refine (rpeek_no B (r W).b (r W).v (r W).l (r W).T (r W).F (r W).en N _ K HK2 ((tB.out.later (Below.refl _ _).drew.drew.drew).rin W hW) HL hmK.out).mono ?_; rintro e w3 ⟨rfl, hB3⟩; have hB3' := below_to (Below.refl _ _).drew.drew.drew hB3; have S3 : w3.cell? ⟨bt, 2 + W, none⟩ = some (.pointer (some ⟨(r W).b, 0, none⟩)) ∧ w3.cell? ⟨w.heap.size, 2, none⟩ = some (.int .i64 N) := ⟨(tB.out.later hB3').cR W hW, (KB.out.later hB3').cell 2⟩))
  have T3 : Hid (Tb B w0 w3 bt i r o s k) := tB.out.later hB3'
  have cv3 := conv_row E30 Try.underlying9 w3 none 0 0 [] rfl (.inl ⟨rfl, rfl⟩)
  rename_i hHeld3
  clear hHeld3 S3 hB3 hB3' tB KB cI cR cN
  go_wp2_with fail
  --4
  refine (keep_any B bt (pres i r o s) k.vL k.vM k.N k.F k.G k.s (.slice none 0 0) 0 _ T3.out.bk T3.out.tab (.inl ⟨rfl, rfl⟩) (by have := HkN.out; omega) (by omega) T3.out.base).mono ?_; rintro e w4 ⟨rfl, KT4⟩
  obtain ⟨k4, hk4, t4, -, -⟩ := tb_keep T3.out (.slice none 0 0) (fun q hq => by cases hq) KT4.out
  have T4 : Hid _ := t4
  have Hk4 : Hid (k4.N = k.N + 1) := hk4
  clear t4 KT4 T3 cv3 hk4
  go_wp2_with fail
  --5
  refine (keep_any B bt (pres i r o s) k4.vL k4.vM k4.N k4.F k4.G k4.s (.slice none 0 0) 0 _ T4.out.bk T4.out.tab (.inl ⟨rfl, rfl⟩) (by have := HkN.out; have := Hk4.out; omega) (by omega) T4.out.base).mono ?_; rintro e w5 ⟨rfl, KT5⟩
  obtain ⟨k5, hk5, t5, -, -⟩ := tb_keep T4.out (.slice none 0 0) (fun q hq => by cases hq) KT5.out
  have T5 : Hid _ := t5
  have L5 : Hid (Rl i r o s k5 (n + 1)) := rl_keep l.out (by have := Hk4.out; omega)
  clear t5 KT5 T4 hk5
  go_wp2_with fail
  --6
  refine (same_any B bt w0 _ i r o s k5 (n + 1) W T5 L5 (by omega) hW).mono ?_; rintro e w6 ⟨rfl, hB6⟩
  go_wp2
  go_ret
  exact ⟨ret_bool (by simp), _, _, _, _, _, T5.out.later hB6, L5.out⟩

/-- Any call of an input. -/
theorem inputs_any (kind : Int) (wh : Bool) (N wd : Int) (V : Nat) (a : Option Addr) (len cap : Nat) (lb : List Int) (B bt : Nat) (w0 w : World) (n W : Nat) (t : Plays B w0 w bt n) (hn : n + 1 ≤ 900) (hW : W < 2)
    (hlb : lb.length = len) (hrow : ∀ w', Below B w0 w' → Row .u8 w' a lb) (hnil : a = none → cap = 0) (hlen : len ≤ 1000) :
    Calls Try.prog 24 #[.pointer (some ⟨bt, 0, none⟩), .int .i64 W, .agg #[.int .i64 kind, .bool wh, .int .i64 N, .int .i64 wd, .int .u64 V, .slice a len cap]] w fun e w' => e = .returned (.bool true) ∧ Hid (Plays B w0 w' bt (n + 1)) := by
  obtain ⟨i, r, o, s, k, t, l⟩ := t
  by_cases k1 : kind = 1
  · subst k1; exact inputs_new wh N wd V a len cap B bt w0 w i r o s k n W t l hW
  by_cases k2 : kind = 2
  · subst k2; exact inputs_give wh N wd V a len cap lb B bt w0 w i r o s k n W t l hn hW hlb hrow hnil hlen
  by_cases k3 : kind = 3
  · subst k3; exact inputs_end wh N wd V a len cap B bt w0 w i r o s k n W t l (by omega) hW
  by_cases k4 : kind = 4
  · subst k4; exact inputs_take wh N wd V a len cap B bt w0 w i r o s k n W t l (by omega) hW
  by_cases k5 : kind = 5
  · subst k5
    by_cases hm : 0 ≤ N ∧ N ≤ ((i W).h.length : Int)
    · obtain ⟨m, rfl⟩ := Int.eq_ofNat_of_zero_le hm.1
      exact inputs_peek_yes wh m wd V a len cap B bt w0 w i r o s k n W t l hn hW (by show m ≤ _; omega)
    · exact inputs_peek_no wh N wd V a len cap B bt w0 w i r o s k n W t l hn hW hm
  by_cases k6 : kind = 6
  · subst k6; exact inputs_skip wh N wd V a len cap B bt w0 w i r o s k n W t l (by omega) hW
  exact inputs_0 kind wh N wd V a len cap B bt w0 w i r o s k n W t l k1 k2 k3 k4 k5 k6
end Go.Proofs.Ytmeplmhngmlnaaa
