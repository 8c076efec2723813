/- Calls of an output: Put. -/
import Derived.Test.YtmeplmhngmlnaaaZh
namespace Go.Proofs.Ytmeplmhngmlnaaa
open Go.RowKit
set_option linter.unusedVariables false

theorem out_ext {B bt : Nat} {w0 w : World} {i : Nat → InD} {r : Nat → RinD} {o s : Nat → OutD} {k : BkD} {W : Nat} {d : OutD} (t : Tb B w0 w bt i r (ext o W d) s k) (hW : W < 2) : OutAt 67 B w d.b d.v d.l d.m := by
  have h := t.out W hW
  rw [ext_at] at h
  exact h
theorem rout_ext {B bt : Nat} {w0 w : World} {i : Nat → InD} {r : Nat → RinD} {o s : Nat → OutD} {k : BkD} {W : Nat} {d : OutD} (t : Tb B w0 w bt i r o (ext s W d) k) (hW : W < 2) : OutAt 84 B w d.b d.v d.l d.m := by
  have h := t.rout W hW
  rw [ext_at] at h
  exact h
set_option maxHeartbeats 4000000 in
set_option maxRecDepth 100000 in
theorem outputs_put (wh : Bool) (N wd : Int) (V : Nat) (a : Option Addr) (len cap : Nat) (lb : List Int) (B bt : Nat) (w0 w : World) (i : Nat → InD) (r : Nat → RinD) (o s : Nat → OutD) (k : BkD) (n W : Nat) (t : Hid (Tb B w0 w bt i r o s k)) (l : Hid (Rl i r o s k n)) (hn : n + 1 ≤ 900) (hW : W < 2)
    (hlb : Hid (lb.length = len)) (HRow : Hid (∀ w', Below B w0 w' → Row .u8 w' a lb)) (hnil : Hid (a = none → cap = 0)) (hlen : len ≤ 1000) :
    Calls Try.prog 25 #[.pointer (some ⟨bt, 0, none⟩), .int .i64 W, .agg #[.int .i64 8, .bool wh, .int .i64 N, .int .i64 wd, .int .u64 V, .slice a len cap]] w fun e w' => e = .returned (.bool true) ∧ Hid (Plays B w0 w' bt (n + 1)) := by
  have hW' : (W : Int) < 2 := by omega
  have HLs : Hid ((s W).l.length ≤ 1000 * n) := l.out.olen W hW
  have HLo : Hid ((o W).l.length + len ≤ 1000000) := by show _ ≤ _; rw [l.out.ol W hW]; have := HLs.out; omega
  have HLs2 : Hid ((s W).l.length + len ≤ 1000000) := by show _ ≤ _; have := HLs.out; omega
  have HM : Hid (0 ≤ (s W).m ∧ (s W).m ≤ 9223372036854775807) := l.out.m W hW
  have HMo : Hid (0 ≤ (o W).m ∧ (o W).m ≤ 9223372036854775807) := by show _ ∧ _; rw [l.out.om W hW]; exact HM.out
  obtain ⟨x, hx⟩ : ∃ x : Int, (if ((s W).l.length : Int) + len ≤ (s W).m then (0 : Int) else 4) = x := ⟨_, rfl⟩
  have HX2 : Hid ((if ((s W).l.length : Int) + len ≤ (s W).m then (0 : Int) else 4) = x) := hx
  have HX1 : Hid ((if ((o W).l.length : Int) + len ≤ (o W).m then (0 : Int) else 4) = x) := by show _ = _; rw [l.out.ol W hW, l.out.om W hW]; exact hx
  obtain ⟨l', hl'⟩ : ∃ l', (if ((s W).l.length : Int) + len ≤ (s W).m then (s W).l ++ lb else (s W).l) = l' := ⟨_, rfl⟩
  have Hl2 : Hid ((if ((s W).l.length : Int) + len ≤ (s W).m then (s W).l ++ lb else (s W).l) = l') := hl'
  have Hl1 : Hid ((if ((o W).l.length : Int) + len ≤ (o W).m then (o W).l ++ lb else (o W).l) = l') := by show _ = _; rw [l.out.ol W hW, l.out.om W hW]; exact hl'
  obtain ⟨n1, hn1⟩ : ∃ n1, l'.length = n1 := ⟨_, rfl⟩
  have HN : Hid (l'.length = n1) := hn1
  have HL2 : Hid (∀ v1 v2, Rl i r (ext o W ⟨(o W).b, v1, l', (o W).m⟩) (ext s W ⟨(s W).b, v2, l', (s W).m⟩) k (n + 1)) := fun v1 v2 =>
    rl_out l.out W _ _ rfl (l.out.om W hW) (l.out.m W hW) (by
      show l'.length ≤ _
      rw [← hl']
      have h1 := HLs.out
      have h2 := hlb.out
      split
      · rw [List.length_append]; omega
      · omega)
  clear hx hl' hn1
  go_enter Try.func25, Try.ntmps25
  go_wp2_with fail
  obtain ⟨wB, hwB⟩ : ∃ wB, wB = w.alloc (box 8 wh N wd V a len cap) := ⟨_, rfl⟩
  have hBB : Below w.heap.size w wB := by rw [hwB]; exact (Below.refl _ _).alloc (Nat.le_refl _) _
  have KB : Hid (Blk wB w.heap.size 53 (boxL 8 wh N wd V a len cap)) := by rw [hwB]; exact box_new w _ _ _ _ _ _ _ _
  unfold box at hwB
  rw [← hwB]
  clear hwB
  have tB : Hid (Tb B w0 wB bt i r o s k) := t.out.later hBB
  have HoB : Hid (Outs B i r o s k w.heap.size) := t.out.outs _ (Nat.le_refl _)
  clear t
  --1
  refine (lent_any a len cap lb _ hlb (HRow.out _ tB.out.bel) hnil (by omega)).mono ?_; rintro e w1 ⟨g, c, rfl, hg, HLe, hB1⟩
  have T1 : Hid (Tb B w0 w1 bt i r o s k) := tB.out.later hB1
  have K1 : Hid (Blk w1 w.heap.size 53 (boxL 8 wh N wd V a len cap)) := KB.out.later hB1
  have HoG : Hid (Outs B i r o s k g) := tB.out.outs g hg
  have hgl := HLe.out.lt
  have hgb : bt ≠ g := by have := tB.out.tab.2.lt; omega
  have hgB : B ≤ g ∧ w0.heap.size ≤ g := ⟨Nat.le_trans tB.out.base hg, Nat.le_trans tB.out.bel.size hg⟩
  have hkl := K1.out.lt
  have cO := T1.out.cO W hW
  clear tB KB hB1 hg
  go_wp2_with fail
  --2
  refine (oput_any B (o W).b (o W).v (o W).l (o W).m (some ⟨g, 0, none⟩) len c lb _ (T1.out.out W hW) hlb HLe.out.row (fun h => by cases h) HMo.out.1 HMo.out.2 HLo.out).mono ?_; rintro e w2 ⟨rfl, HI2⟩
  rw [HX1.out]
  rw [Hl1.out] at HI2
  obtain ⟨v2, t2, u2, o2⟩ := tb_out2 T1.out W hW HI2.out
  have T2 : Hid _ := t2
  have K2 : Hid (Blk w2 w.heap.size 53 (boxL 8 wh N wd V a len cap)) := K1.out.upd u2 (HoB.out.no W hW)
  have Le2 : Hid (Lent w2 g c lb) := HLe.out.upd u2 (HoG.out.no W hW)
  have Og2 : Hid (Outs B i r (ext o W ⟨(o W).b, v2, l', (o W).m⟩) s k g) := o2 g HoG.out hgl
  have Ob2 : Hid (Outs B i r (ext o W ⟨(o W).b, v2, l', (o W).m⟩) s k w.heap.size) := o2 _ HoB.out hkl
  have hgl2 : g < w2.heap.size := Nat.lt_of_lt_of_le hgl u2.size
  have cO2 : w2.cell? ⟨bt, 4 + W, none⟩ = some (.pointer (some ⟨(o W).b, 0, none⟩)) := by have h := t2.cO W hW; rw [ext_at] at h; exact h
  have cS2 := T2.out.cS W hW
  have cB : w2.cell? ⟨w.heap.size, 5, none⟩ = some (.slice a len cap) := K2.out.cell 5
  clear t2 u2 o2 HI2 cO K1 HLe HoG HoB T1 hgl hkl
  go_wp2_with fail
  --3
  go_region_held_law (fun w' => w'.cell? ⟨bt, 4 + W, none⟩ = some (.pointer (some ⟨(o W).b, 0, none⟩)) ∧ w'.cell? ⟨bt, 6 + W, none⟩ = some (.pointer (some ⟨(s W).b, 0, none⟩)) ∧ w'.cell? ⟨w.heap.size, 5, none⟩ = some (.slice a len cap)) (first | assumption | exact ⟨cO2, cS2, cB⟩)
    (first
      | (go_at_call 8; refine (num_any _ _).mono ?_; rintro e w' ⟨rfl, rfl⟩)
      | (go_at_call 42; refine (roput_any B (s W).b (s W).v (s W).l (s W).m a len cap lb _ ((T2.out.later (Below.refl _ _).drew).rout W hW) hlb (HRow.out _ T2.out.bel.drew) hnil HM.out.1 HM.out.2 HLs2.out).mono ?_; rintro e w3 ⟨rfl, HR3⟩; rw [HX2.out]; rw [Hl2.out] at HR3; obtain ⟨v3, t3, u3, o3⟩ := tb_rout2 (T2.out.later (Below.refl _ _).drew) W hW HR3.out; have T3 : Hid _ := t3; have Le3 : Hid (Lent w3 g c lb) := (Le2.out.later (Below.refl _ _).drew).upd u3 (Og2.out.ns W hW); have K3 : Hid (Blk w3 w.heap.size 53 (boxL 8 wh N wd V a len cap)) := (K2.out.drew).upd u3 (Ob2.out.ns W hW); have Og3 : Hid _ := o3 g Og2.out hgl2; have S3 : w3.cell? ⟨bt, 4 + W, none⟩ = some (.pointer (some ⟨(o W).b, 0, none⟩)) ∧ w3.cell? ⟨bt, 6 + W, none⟩ = some (.pointer (some ⟨(s W).b, 0, none⟩)) ∧ w3.cell? ⟨w.heap.size, 5, none⟩ = some (.slice a len cap) := ⟨by have h := t3.cO W hW; rw [ext_at] at h; exact h, by have h := t3.cS W hW; rw [ext_at] at h; exact h, K3.out.cell 5⟩; clear t3 HR3 o3 u3)
      | (go_at_call 34; refine (over_any g c a len cap lb _ Le3 hlb (HRow.out _ T3.out.bel) (by omega)).mono ?_; rintro e w4 ⟨rfl, hU4⟩; have T4 : Hid _ := tb_upd T3.out g hU4 Og3.out hgb hgB; have S4 : w4.cell? ⟨bt, 4 + W, none⟩ = some (.pointer (some ⟨(o W).b, 0, none⟩)) ∧ w4.cell? ⟨bt, 6 + W, none⟩ = some (.pointer (some ⟨(s W).b, 0, none⟩)) ∧ w4.cell? ⟨w.heap.size, 5, none⟩ = some (.slice a len cap) := ⟨by have h := T4.out.cO W hW; rw [ext_at] at h; exact h, by have h := T4.out.cS W hW; rw [ext_at] at h; exact h, (K3.out.upd hU4 (blk_ne K3.out (Le3.out.blk.choose_spec.1) (by decide))).cell 5⟩; have L4 : Hid _ := HL2.out v2 v3; have HO4 : Hid (OutAt 67 B w4 (o W).b v2 l' (o W).m) := out_ext T4.out hW; have HS4 : Hid (OutAt 84 B w4 (s W).b v3 l' (s W).m) := rout_ext T4.out hW)
      | (go_at_call 10; refine (len_any B (o W).b v2 l' (o W).m _ n1 HN HO4).mono ?_; rintro e w' ⟨rfl, rfl⟩)
      | (go_at_call 43; refine (rlen_any B (s W).b v3 l' (s W).m _ n1 HN HS4).mono ?_; rintro e w' ⟨rfl, rfl⟩))
  all_goals
    go_wp2
    go_ret
    exact ⟨rfl, _, _, _, _, _, T4.out, L4.out⟩
end Go.Proofs.Ytmeplmhngmlnaaa
