/- Calls of an output: Bytes; all together. -/
import Derived.Test.YtmeplmhngmlnaaaZi
import Derived.Test.YtmeplmhngmlnaaaG
namespace Go.Proofs.Ytmeplmhngmlnaaa
open Go.RowKit
set_option linter.unusedVariables false

set_option maxHeartbeats 8000000 in
set_option maxRecDepth 100000 in
theorem outputs_bytes (wh : Bool) (N wd : Int) (V : Nat) (a : Option Addr) (len cap : Nat) (B bt : Nat) (w0 w : World) (i : Nat → InD) (r : Nat → RinD) (o s : Nat → OutD) (k : BkD) (n W : Nat) (t : Hid (Tb B w0 w bt i r o s k)) (l : Hid (Rl i r o s k n)) (hn : n + 1 ≤ 900) (hW : W < 2) :
    Calls Try.prog 25 #[.pointer (some ⟨bt, 0, none⟩), .int .i64 W, .agg #[.int .i64 10, .bool wh, .int .i64 N, .int .i64 wd, .int .u64 V, .slice a len cap]] w fun e w' => e = .returned (.bool true) ∧ Hid (Plays B w0 w' bt (n + 1)) := by
  have hW' : (W : Int) < 2 := by omega
  obtain ⟨L, hL⟩ : ∃ L, (s W).l = L := ⟨_, rfl⟩
  have HLo : Hid ((o W).l = L) := by show _ = _; rw [l.out.ol W hW]; exact hL
  have HLs : Hid ((s W).l = L) := hL
  obtain ⟨m, hm⟩ : ∃ m, L.length = m := ⟨_, rfl⟩
  have HLe : Hid (L.length = m) := hm
  have hmn : m ≤ 1000 * n := by have := l.out.olen W hW; rw [hL, hm] at this; exact this
  obtain ⟨str, hstr⟩ : ∃ str, strOfNums L = str := ⟨_, rfl⟩
  have HStr : Hid (strOfNums L = str) := hstr
  have HkN : Hid (k.N ≤ 2 * n) := l.out.kN
  clear hL hstr hm
  go_enter Try.func25, Try.ntmps25
  obtain ⟨wB, hwB⟩ : ∃ wB, wB = w.alloc (box 10 wh N wd V a len cap) := ⟨_, rfl⟩
  have hBB : Below w.heap.size w wB := by rw [hwB]; exact (Below.refl _ _).alloc (Nat.le_refl _) _
  have tB : Hid (Tb B w0 wB bt i r o s k) := t.out.later hBB
  have cw := t.out.cO W hW
  have hbt := t.out.tab.2.lt
  unfold box at hwB
  go_wp2_with fail
  rw [← hwB]
  clear hwB cw hbt t
  --1
  refine (bytes_any B (o W).b (o W).v (o W).l (o W).m _ m (by show _ = _; rw [HLo.out]; exact HLe.out) (by omega) (tB.out.out W hW)).mono ?_; rintro e w1 ⟨g1, rfl, hg1, HB1, hB1⟩
  rw [HLo.out] at HB1
  have T1 : Hid (Tb B w0 w1 bt i r o s k) := tB.out.later hB1
  have O1 : Hid (Outs B i r o s k g1) := tB.out.outs g1 hg1
  have lo1 : B ≤ g1 ∧ w0.heap.size ≤ g1 := ⟨Nat.le_trans tB.out.base hg1, Nat.le_trans tB.out.bel.size hg1⟩
  have nb1 : bt ≠ g1 := by have h1 := tB.out.tab.2.lt; omega
  have hl1 := HB1.out.lt
  have cO1 := T1.out.cO W hW
  clear tB hB1 hg1
  go_wp2_with fail
  --2
  refine (bytes_any B (o W).b (o W).v (o W).l (o W).m _ m (by show _ = _; rw [HLo.out]; exact HLe.out) (by omega) (T1.out.out W hW)).mono ?_; rintro e w2 ⟨g2, rfl, hg2, HB2, hB2⟩
  rw [HLo.out] at HB2
  have T2 : Hid (Tb B w0 w2 bt i r o s k) := T1.out.later hB2
  have HB12 : Hid (Blk w2 g1 5 (cellsL .u8 L)) := HB1.out.later hB2
  have O2 : Hid (Outs B i r o s k g2) := T1.out.outs g2 hg2
  have lo2 : B ≤ g2 ∧ w0.heap.size ≤ g2 := ⟨Nat.le_trans T1.out.base hg2, Nat.le_trans T1.out.bel.size hg2⟩
  have nb2 : bt ≠ g2 := by have h1 := T1.out.tab.2.lt; omega
  have n12 : g2 ≠ g1 := by omega
  have hl2 := HB2.out.lt
  have cv1 := conv_blk HB12.out HLe.out
  have cv2 := conv_blk HB2.out HLe.out
  rw [HStr.out] at cv1 cv2
  have hS := T2.out.rout W hW
  rw [HLs.out] at hS
  obtain ⟨a3, c3, e3, -⟩ := hS.tail.open
  have ht3 := hS.tail
  have d0 := hS.c0
  rw [e3] at ht3 d0
  have cv3 := conv_later ht3
  rw [HLe.out] at cv3 d0
  rw [HStr.out] at cv3
  have HO2 : Hid (OutAt 67 B w2 (o W).b (o W).v L (o W).m) := by
    have h := T2.out.out W hW
    rw [HLo.out] at h
    exact h
  have cO2 := T2.out.cO W hW
  have cS2 := T2.out.cS W hW
  have hB0 := Below.refl w2.heap.size w2
  have C1 : Hid (∀ w', Below w2.heap.size w2 w' → w'.cell? ⟨bt, 4 + W, none⟩ = some (.pointer (some ⟨(o W).b, 0, none⟩)) ∧ w'.cell? ⟨bt, 6 + W, none⟩ = some (.pointer (some ⟨(s W).b, 0, none⟩)) ∧ w'.cell? ⟨(s W).b, 0, none⟩ = some (.slice a3 m c3) ∧ Below w2.heap.size w2 w') := fun w' hB => ⟨(T2.out.later hB).cO W hW, (T2.out.later hB).cS W hW, by rw [hB.cell (p := ⟨(s W).b, 0, none⟩) hS.blk.lt]; exact d0, hB⟩
  clear ht3 hS e3 T1 HB1 hB2 hg2 cO1 hl1
  go_wp2_with fail
  --3
  go_region_held_law (fun w' => w'.cell? ⟨bt, 4 + W, none⟩ = some (.pointer (some ⟨(o W).b, 0, none⟩)) ∧ w'.cell? ⟨bt, 6 + W, none⟩ = some (.pointer (some ⟨(s W).b, 0, none⟩)) ∧ w'.cell? ⟨(s W).b, 0, none⟩ = some (.slice a3 m c3) ∧ Below w2.heap.size w2 w') (first | assumption | exact C1.out _ hB0.drew)
    (first | (go_at_call 10; refine (len_any B (o W).b (o W).v L (o W).m _ m HLe (HO2.out.later (Below.refl _ _).drew)).mono ?_; rintro e w' ⟨rfl, rfl⟩))
  --4
  have T3 : Hid (Tb B w0 w2.drew bt i r o s k) := T2.out.later (Below.refl _ _).drew
  have HB13 : Hid (Blk w2.drew g1 5 (cellsL .u8 L)) := HB12.out
  have HB23 : Hid (Blk w2.drew g2 5 (cellsL .u8 L)) := HB2.out
  clear cv1 cv2 cv3 d0 cO2 cS2 HO2 T2 HB12 HB2 C1
  go_wp2_with fail
  refine (keep_any B bt (pres i r o s) k.vL k.vM k.N k.F k.G k.s (.slice (some ⟨g1, 0, none⟩) m m) m _ T3.out.bk T3.out.tab (.inr ⟨g1, L, rfl, HB13.out, HLe.out, lo1.1, O1.out.nk⟩) (by have := HkN.out; omega) (by omega) T3.out.base).mono ?_; rintro e w4 ⟨rfl, KT4⟩
  obtain ⟨k4, hk4, t4, u4, f4⟩ := tb_keep T3.out (.slice (some ⟨g1, 0, none⟩) m m) (fun q hq => by injection hq with hq; have e : g1 = q := hq; subst e; exact ⟨lo1, O1.out⟩) KT4.out
  have T4 : Hid _ := t4
  have HB24 : Hid (Blk w4 g2 5 (cellsL .u8 L)) := HB23.out.upd u4 (fun h => by
    rcases h with h | h | h
    · exact nb2 h.symm
    · injection h with h
      have e : g1 = g2 := h
      exact n12 e.symm
    · exact O2.out.nk h)
  have O4 : Hid (Outs B i r o s k4 g2) := outs_keep O2.out (fun h => by
    rcases f4 g2 h with h | h | h
    · exact O2.out.nk h
    · injection h with h
      have e : g1 = g2 := h
      exact n12 e.symm
    · have := HB23.out.lt; omega)
  have Hk4 : Hid (k4.N = k.N + 1) := hk4
  clear t4 u4 f4 KT4 T3 HB13 HB23 hk4
  go_wp2_with fail
  --5
  refine (keep_any B bt (pres i r o s) k4.vL k4.vM k4.N k4.F k4.G k4.s (.slice (some ⟨g2, 0, none⟩) m m) m _ T4.out.bk T4.out.tab (.inr ⟨g2, L, rfl, HB24.out, HLe.out, lo2.1, O4.out.nk⟩) (by have := HkN.out; have := Hk4.out; omega) (by omega) T4.out.base).mono ?_; rintro e w5 ⟨rfl, KT5⟩
  obtain ⟨k5, hk5, t5, -, -⟩ := tb_keep T4.out (.slice (some ⟨g2, 0, none⟩) m m) (fun q hq => by injection hq with hq; have e : g2 = q := hq; subst e; exact ⟨lo2, O4.out⟩) KT5.out
  have T5 : Hid _ := t5
  have L5 : Hid (Rl i r o s k5 (n + 1)) := rl_keep l.out (by have := Hk4.out; omega)
  clear t5 KT5 T4 HB24 hk5
  go_wp2
  go_ret
  exact ⟨ret_bool (by simp), _, _, _, _, _, T5.out, L5.out⟩
end Go.Proofs.Ytmeplmhngmlnaaa
