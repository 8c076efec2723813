/- Calls of an input: Peek. -/
import Derived.Test.YtmeplmhngmlnaaaZd
namespace Go.Proofs.Ytmeplmhngmlnaaa
open Go.RowKit
set_option linter.unusedVariables false

theorem rl_keep {i : Nat → InD} {r : Nat → RinD} {o s : Nat → OutD} {k k' : BkD} {n : Nat} (l : Rl i r o s k n) (h : k'.N ≤ k.N + 2) : Rl i r o s k' (n + 1) :=
  ⟨l.h, l.p, l.en, l.f, fun W hW => by have := l.len W hW; omega, l.ol, l.om, l.m, fun W hW => by have := l.olen W hW; omega, by have := l.kN; omega⟩
theorem Outs.nk {B : Nat} {i : Nat → InD} {r : Nat → RinD} {o s : Nat → OutD} {k : BkD} {q : Nat} (h : Outs B i r o s k q) : ¬ FK k.vL k.vM k.N k.F k.G q := by
  have h1 := h 8 (by omega)
  rw [fam_k] at h1
  exact h1
/-- Two lists that are handed out go into the book. -/
theorem outs_keep {B : Nat} {i : Nat → InD} {r : Nat → RinD} {o s : Nat → OutD} {k k' : BkD} {q : Nat} (h : Outs B i r o s k q) (hk : ¬ FK k'.vL k'.vM k'.N k'.F k'.G q) : Outs B i r o s k' q := fun c hc hf => by
  rw [← fam_ek (k := k) k' c hc] at hf
  by_cases e : c = 8
  · subst e; rw [ext_at] at hf; exact hk hf
  · rw [ext_ne _ _ _ _ e] at hf; exact h c hc hf

set_option maxHeartbeats 8000000 in
set_option maxRecDepth 100000 in
theorem inputs_peek_yes (wh : Bool) (m : Nat) (wd : Int) (V : Nat) (a : Option Addr) (len cap : Nat) (B bt : Nat) (w0 w : World) (i : Nat → InD) (r : Nat → RinD) (o s : Nat → OutD) (k : BkD) (n W : Nat) (t : Hid (Tb B w0 w bt i r o s k)) (l : Hid (Rl i r o s k n)) (hn : n + 1 ≤ 900) (hW : W < 2) (hm : Hid (m ≤ (i W).h.length)) :
    Calls Try.prog 24 #[.pointer (some ⟨bt, 0, none⟩), .int .i64 W, .agg #[.int .i64 5, .bool wh, .int .i64 m, .int .i64 wd, .int .u64 V, .slice a len cap]] w fun e w' => e = .returned (.bool true) ∧ Hid (Plays B w0 w' bt (n + 1)) := by
  have hW' : (W : Int) < 2 := by omega
  obtain ⟨K, hK⟩ : ∃ K, (i W).h.length = K := ⟨_, rfl⟩
  have HK2 : Hid (((r W).l.drop (r W).T).length = K) := by show _ = _; rw [← l.out.h W hW]; exact hK
  have hKn : K ≤ 1000 * n := by have h1 := HK2.out; have h2 := l.out.len W hW; rw [List.length_drop] at h1; omega
  have HL : Hid ((r W).l.length ≤ 1000000) := by show _ ≤ _; have := l.out.len W hW; omega
  have HS : Hid ((i W).h.length ≤ 140737488351232) := by show _ ≤ _; omega
  have hmK : m ≤ K := by rw [← hK]; exact hm.out
  obtain ⟨L, hL⟩ : ∃ L, (i W).h.take m = L := ⟨_, rfl⟩
  have HLe : Hid (L.length = m) := by show _ = _; rw [← hL, List.length_take]; omega
  have HT1 : Hid ((i W).h.take m = L) := hL
  have HT2 : Hid (((r W).l.drop (r W).T).take m = L) := by show _ = _; rw [← l.out.h W hW]; exact hL
  obtain ⟨str, hstr⟩ : ∃ str, strOfNums L = str := ⟨_, rfl⟩
  have HStr : Hid (strOfNums L = str) := hstr
  have HkN : Hid (k.N ≤ 2 * n) := l.out.kN
  clear hL hstr hK
  go_enter Try.func24, Try.ntmps24
  go_wp2_with fail
  obtain ⟨wB, hwB⟩ : ∃ wB, wB = w.alloc (box 5 wh m wd V a len cap) := ⟨_, rfl⟩
  have hBB : Below w.heap.size w wB := by rw [hwB]; exact (Below.refl _ _).alloc (Nat.le_refl _) _
  have KB : Hid (Blk wB w.heap.size 53 (boxL 5 wh m wd V a len cap)) := by rw [hwB]; exact box_new w _ _ _ _ _ _ _ _
  unfold box at hwB
  rw [← hwB]
  clear hwB
  have tB : Hid (Tb B w0 wB bt i r o s k) := t.out.later hBB
  clear t
  have cI := tB.out.cI W hW
  have cN : wB.cell? ⟨w.heap.size, 2, none⟩ = some (.int .i64 m) := KB.out.cell 2
  --1
  go_region_held_law (fun w' => w'.cell? ⟨bt, W, none⟩ = some (.pointer (some ⟨(i W).b, 0, none⟩)) ∧ w'.cell? ⟨w.heap.size, 2, none⟩ = some (.int .i64 m)) (first | assumption | exact ⟨cI, cN⟩)
    (first | (go_at_call 16; refine (peek_yes B (i W).b (i W).v (i W).h (i W).p (i W).en m _ ((tB.out.later (Below.refl _ _).drew).inp W hW) hm HS).mono ?_; rintro e w1 ⟨g1, rfl, hg1, HB1, hB1⟩; rw [HT1.out] at HB1; have hB1' := below_to (Below.refl _ _).drew hB1; have S1 : w1.cell? ⟨bt, W, none⟩ = some (.pointer (some ⟨(i W).b, 0, none⟩)) ∧ w1.cell? ⟨w.heap.size, 2, none⟩ = some (.int .i64 m) := ⟨(tB.out.later hB1').cI W hW, (KB.out.later hB1').cell 2⟩))
  have T1 : Hid (Tb B w0 w1 bt i r o s k) := tB.out.later hB1'
  have K1 : Hid (Blk w1 w.heap.size 53 (boxL 5 wh m wd V a len cap)) := KB.out.later hB1'
  have O1 : Hid (Outs B i r o s k g1) := tB.out.outs g1 hg1
  have lo1 : B ≤ g1 ∧ w0.heap.size ≤ g1 := ⟨Nat.le_trans tB.out.base hg1, Nat.le_trans tB.out.bel.size hg1⟩
  have nb1 : bt ≠ g1 := by have h1 := tB.out.tab.2.lt; have h2 : wB.heap.size ≤ g1 := hg1; omega
  have hl1 := HB1.out.lt
  have cI1 := S1.1
  have cN1 := S1.2
  rename_i hHeld1
  clear hHeld1 S1 hB1 hB1' tB KB cI cN hg1
  go_wp2_with fail
  --2
  go_region_held_law (fun w' => w'.cell? ⟨bt, W, none⟩ = some (.pointer (some ⟨(i W).b, 0, none⟩)) ∧ w'.cell? ⟨w.heap.size, 2, none⟩ = some (.int .i64 m)) (first | assumption | exact ⟨cI1, cN1⟩)
    (first | (go_at_call 16; refine (peek_yes B (i W).b (i W).v (i W).h (i W).p (i W).en m _ ((T1.out.later (Below.refl _ _).drew).inp W hW) hm HS).mono ?_; rintro e w2 ⟨g2, rfl, hg2, HB2, hB2⟩; rw [HT1.out] at HB2; have hB2' := below_to (Below.refl _ _).drew hB2; have S2 : w2.cell? ⟨bt, W, none⟩ = some (.pointer (some ⟨(i W).b, 0, none⟩)) ∧ w2.cell? ⟨w.heap.size, 2, none⟩ = some (.int .i64 m) := ⟨(T1.out.later hB2').cI W hW, (K1.out.later hB2').cell 2⟩))
  have T2 : Hid (Tb B w0 w2 bt i r o s k) := T1.out.later hB2'
  have K2 : Hid (Blk w2 w.heap.size 53 (boxL 5 wh m wd V a len cap)) := K1.out.later hB2'
  have HB12 : Hid (Blk w2 g1 5 (cellsL .u8 L)) := HB1.out.later hB2'
  have O2 : Hid (Outs B i r o s k g2) := T1.out.outs g2 hg2
  have lo2 : B ≤ g2 ∧ w0.heap.size ≤ g2 := ⟨Nat.le_trans T1.out.base hg2, Nat.le_trans T1.out.bel.size hg2⟩
  have nb2 : bt ≠ g2 := by have h1 := T1.out.tab.2.lt; have h2 : w1.heap.size ≤ g2 := hg2; omega
  have n12 : g2 ≠ g1 := by have h2 : w1.heap.size ≤ g2 := hg2; omega
  have hl2 := HB2.out.lt
  have cR2 := T2.out.cR W hW
  have cN2 := S2.2
  rename_i hHeld2
  clear hHeld2 S2 hB2 hB2' T1 K1 HB1 cI1 cN1 hg2 hl1
  go_wp2_with fail
  --3
  go_region_held_law (fun w' => w'.cell? ⟨bt, 2 + W, none⟩ = some (.pointer (some ⟨(r W).b, 0, none⟩)) ∧ w'.cell? ⟨w.heap.size, 2, none⟩ = some (.int .i64 m)) (first | assumption | exact ⟨cR2, cN2⟩)
    (first | (go_at_call 38; refine (rpeek_yes B (r W).b (r W).v (r W).l (r W).T (r W).F (r W).en m _ K HK2 ((T2.out.later (Below.refl _ _).drew).rin W hW) HL hmK).mono ?_; rintro e w3 ⟨a3, c3, rfl, HR3, hB3⟩; rw [HT2.out] at HR3; have hB3' := below_to (Below.refl _ _).drew hB3; have S3 : w3.cell? ⟨bt, 2 + W, none⟩ = some (.pointer (some ⟨(r W).b, 0, none⟩)) ∧ w3.cell? ⟨w.heap.size, 2, none⟩ = some (.int .i64 m) := ⟨(T2.out.later hB3').cR W hW, (K2.out.later hB3').cell 2⟩))
  have T3 : Hid (Tb B w0 w3 bt i r o s k) := T2.out.later hB3'
  have HB13 : Hid (Blk w3 g1 5 (cellsL .u8 L)) := HB12.out.later hB3'
  have HB23 : Hid (Blk w3 g2 5 (cellsL .u8 L)) := HB2.out.later hB3'
  have cv1 := conv_row E30 Try.underlying9 w3 (some ⟨g1, 0, none⟩) m m L HLe.out HB13.out.row
  have cv2 := conv_row E30 Try.underlying9 w3 (some ⟨g2, 0, none⟩) m m L HLe.out HB23.out.row
  have cv3 := conv_row E30 Try.underlying9 w3 a3 m c3 L HLe.out HR3.out
  rw [HStr.out] at cv1 cv2 cv3
  rename_i hHeld3
  clear hHeld3 S3 hB3 hB3' T2 K2 HB12 HB2 cR2 cN2 HR3
  go_wp2_with fail
  --4
  refine (keep_any B bt (pres i r o s) k.vL k.vM k.N k.F k.G k.s (.slice (some ⟨g1, 0, none⟩) m m) m _ T3.out.bk T3.out.tab (.inr ⟨g1, L, rfl, HB13.out, HLe.out, lo1.1, O1.out.nk⟩) (by have := HkN.out; omega) (by omega) T3.out.base).mono ?_; rintro e w4 ⟨rfl, KT4⟩
  obtain ⟨k4, hk4, t4, u4, f4⟩ := tb_keep T3.out (.slice (some ⟨g1, 0, none⟩) m m) (fun q hq => by injection hq with hq; have e : g1 = q := hq; subst e; exact ⟨lo1, O1.out⟩) KT4.out
  have T4 : Hid _ := t4
  have HB24 : Hid (Blk w4 g2 5 (cellsL .u8 L)) := HB23.out.upd u4 (fun h => by
    rcases h with h | h | h
    · exact nb2 h.symm
    · injection h with h
      have e : g1 = g2 := h
      exact n12 e.symm
    · exact O2.out.nk h)
  have O4 : Hid (Outs B i r o s k4 g2) := outs_keep O2.out (fun h => by
    rcases f4 g2 h with h | h | h
    · exact O2.out.nk h
    · injection h with h
      have e : g1 = g2 := h
      exact n12 e.symm
    · have := HB23.out.lt; omega)
  have Hk4 : Hid (k4.N = k.N + 1) := hk4
  clear t4 u4 f4 KT4 T3 HB13 HB23 cv1 cv2 cv3 hk4
  go_wp2_with fail
  --5
  refine (keep_any B bt (pres i r o s) k4.vL k4.vM k4.N k4.F k4.G k4.s (.slice (some ⟨g2, 0, none⟩) m m) m _ T4.out.bk T4.out.tab (.inr ⟨g2, L, rfl, HB24.out, HLe.out, lo2.1, O4.out.nk⟩) (by have := HkN.out; have := Hk4.out; omega) (by omega) T4.out.base).mono ?_; rintro e w5 ⟨rfl, KT5⟩
  obtain ⟨k5, hk5, t5, -, -⟩ := tb_keep T4.out (.slice (some ⟨g2, 0, none⟩) m m) (fun q hq => by injection hq with hq; have e : g2 = q := hq; subst e; exact ⟨lo2, O4.out⟩) KT5.out
  have T5 : Hid _ := t5
  have L5 : Hid (Rl i r o s k5 (n + 1)) := rl_keep l.out (by have := Hk4.out; omega)
  clear t5 KT5 T4 HB24 hk5
  go_wp2_with fail
  --6
  refine (same_any B bt w0 _ i r o s k5 (n + 1) W T5 L5 (by omega) hW).mono ?_; rintro e w6 ⟨rfl, hB6⟩
  go_wp2
  go_ret
  exact ⟨ret_bool (by simp), _, _, _, _, _, T5.out.later hB6, L5.out⟩
end Go.Proofs.Ytmeplmhngmlnaaa
