/- Code: text under way; Print's closures. -/
import Derived.Test.YteadmiikenpjeaaDoorCdi
import Derived.Test.YteadmiikenpjeaaDoorLib
import Derived.Lib.AppendIntMem
namespace Go.Proofs.YteadmiikenpjeaaDoor
open Go.RowKit
set_option linter.unusedVariables false

/-- A box of text of the call's own. -/
def Bt (w : World) (B gb : Nat) (l : List UInt8) : Prop := B ≤ gb ∧ ∃ v, Blk w gb 30 [v] ∧ w.ownsRow B 5 1 v l.length (Lib.byteCells l)
theorem Bt.later {w w' : World} {B gb : Nat} {l : List UInt8} (h : Bt w B gb l) (hB : Below w.heap.size w w') : Bt w' B gb l := by
  obtain ⟨h1, v, k1, k2⟩ := h
  exact ⟨h1, v, k1.later hB, ownS_upd k2 (Upd.of_below (S := fun _ => False) hB) (fun _ _ h => h)⟩
theorem Bt.size {w : World} {B gb : Nat} {l : List UInt8} (h : Bt w B gb l) : B ≤ w.heap.size := by
  obtain ⟨h1, v, k1, _⟩ := h
  exact Nat.le_trans h1 (Nat.le_of_lt k1.lt)
abbrev TabB (B : Nat) (w : World) : Prop := Lib.TabBelow Tryd.prog B w "internal/strconv.uint64pow10" .u64 Lib.pow10Tab
/-- The box takes the new slice. -/
theorem Bt.store {w w2 : World} {B gb : Nat} {l r : List UInt8} {v v' : Value} (hB : B ≤ gb) (hBw : B ≤ w.heap.size) (k1 : Blk w gb 30 [v]) (i1 : Blk w2 gb 30 [v]) (e2 : w2.ownsRow B 5 1 v' (l ++ r).length (Lib.byteCells (l ++ r))) (hk : Kb B w w2) (hsz : B ≤ w2.heap.size) :
    Bt (w2.setCell ⟨gb, 0, none⟩ v') B gb (l ++ r) ∧ Kb B w (w2.setCell ⟨gb, 0, none⟩ v') := by
  have hU3 : Upd (fun k => k = gb) w2 (w2.setCell ⟨gb, 0, none⟩ v') := (Upd.refl _ w2).set _ _ (.inl rfl)
  refine ⟨⟨hB, v', by have := i1.set 0 v'; simpa using this, ownS_upd e2 hU3 (fun k hk e => ?_)⟩, hk.trans ?_⟩
  · subst e
    obtain ⟨zs, hz⟩ := ownS_type e2 hk
    exact absurd (blk_type i1 hz) (by decide)
  · exact Kb.of_upd hsz hU3 (fun k e => by subst e; exact hB) (fun k e => by subst e; exact ⟨_, _, i1, .inr rfl⟩)
theorem Bt.form {w : World} {B : Nat} {v : Value} {l : List UInt8} (h : w.ownsRow B 5 1 v l.length (Lib.byteCells l)) : ∃ a cap, v = .slice a l.length cap := by
  rcases h.2 with ⟨h1, h2⟩ | ⟨g, cap, cur, e, _⟩
  · rw [h2]; exact ⟨none, 0, h1⟩
  · exact ⟨_, cap, e⟩
theorem Bt.form3 {w : World} {B : Nat} {v : Value} {l : List UInt8} (h : w.ownsRow B 5 1 v l.length (Lib.byteCells l)) : ∃ a n cap, v = .slice a n cap := by
  obtain ⟨a, c, e⟩ := Bt.form h
  exact ⟨a, _, c, e⟩
set_option maxRecDepth 100000 in
theorem say_c (B gb : Nat) (l : List UInt8) (s : ByteArray) (w : World) (hl : l.length ≤ 1000000000) (hs : s.size ≤ 1000000) (H : Hid (Bt w B gb l)) :
    Calls Tryd.prog 29 #[.string s, .pointer (some ⟨gb, 0, none⟩)] w fun e w' => e = .returned (.tuple #[]) ∧ Hid (Bt w' B gb (l ++ s.data.toList)) ∧ Hid (Kb B w w') := by
  have hBw := H.out.size
  obtain ⟨hB, v, k1, k2⟩ := H.out
  obtain ⟨i0, hi, hz0, hz1, hz2⟩ := info_parts E23.info
  obtain ⟨v', w2, h1, h2, h3, -⟩ := Lib.run_append_own_string (P := Tryd.prog) w B 30 9 30 5 i0 Tryd.underlying30 Tryd.underlying9 hi hz0 hz1 hz2 v l.length _ k2 s (by unfold maxLen; omega) (by omega) hBw
  have hu : Upd (fun k => v.ownBlock = some k) w w2 := (Upd.refl _ w).grown h3 (fun k hk => .inl hk)
  have hnb : ¬ v.ownBlock = some gb := fun e => by
    obtain ⟨zs, hz⟩ := ownS_type k2 e
    exact absurd (blk_type k1 hz) (by decide)
  have i1 := k1.upd hu hnb
  have e2 : w2.ownsRow B 5 1 v' (l ++ s.data.toList).length (Lib.byteCells (l ++ s.data.toList)) := by rw [Lib.byteCells_append, List.length_append, ← Lib.size_eq]; exact h2
  have hkb : Kb B w w2 := Kb.of_upd hBw hu (fun k e => (World.ownsRow.lt k2 k e).1) (fun k e => by obtain ⟨zs, hz⟩ := ownS_type k2 e; exact ⟨_, _, hz, .inl rfl⟩)
  obtain ⟨hx, hk⟩ := Bt.store hB hBw k1 i1 e2 hkb (Nat.le_trans hBw hu.size)
  obtain ⟨a', n', c', hv'⟩ := Bt.form3 e2
  obtain ⟨a0, c0, hv0⟩ := Bt.form k2
  subst hv' hv0
  have HR := hide_ h1
  have HX := hide_ hx
  have HK := hide_ hk
  have x0 := k1.cell 0
  have y0 := i1.cell 0; have yz := i1.frozen 0
  simp at x0 y0
  clear h1 h2 h3 hu hnb i1 e2 hkb hx hk k1 k2 hB
  go_enter Tryd.func29, Tryd.ntmps29
  go_wp2_with (at_builtin; have _t := HR; refine wpList_append_run rfl (.tmp 3) (.tmp 4) 30 9 rfl rfl rfl HR.out ?_; clear HR)
  exact bodyPost_end (results_none rfl _ _ _) rfl ⟨rfl, HX, HK⟩
set_option maxRecDepth 100000 in
theorem num_c (B gb : Nat) (l : List UInt8) (n : Int) (w : World) (hn : -9223372036854775808 ≤ n ∧ n ≤ 9223372036854775807) (hl : l.length ≤ 1000000000) (H : Hid (Bt w B gb l)) (HT : Hid (TabB B w)) :
    Calls Tryd.prog 30 #[.int .i64 n, .pointer (some ⟨gb, 0, none⟩)] w fun e w' => e = .returned (.tuple #[]) ∧ Hid (Bt w' B gb (l ++ Lib.itoa n)) ∧ Hid (Kb B w w') := by
  have hBw := H.out.size
  obtain ⟨hB, v, k1, k2⟩ := H.out
  have K1 := hide_ k1
  have HC := hide_ (Tryd.strconv_AppendInt_10 B l.length n hn.1 hn.2 v _ w k2 hBw (by omega) HT.out)
  obtain ⟨a0, c0, hv0⟩ := Bt.form k2
  subst hv0
  have x0 := k1.cell 0
  simp at x0
  have hw : wrap64 n = n := w64 _ hn
  clear k1 k2
  go_enter Tryd.func30, Tryd.ntmps30
  have HQ : Hid (∀ (w2 : World) (v' : Value), w2.ownsRow B 5 1 v' (l.length + (Lib.itoa n).length) (Lib.byteCells l ++ Lib.byteCells (Lib.itoa n)) → Below B w w2 → Lib.OthersKept 5 none w w2 → ∃ a' n' c', v' = .slice a' n' c' ∧ Blk w2 gb 30 [.slice a0 l.length c0] ∧ Bt (w2.setCell ⟨gb, 0, none⟩ (.slice a' n' c')) B gb (l ++ Lib.itoa n) ∧ Kb B w (w2.setCell ⟨gb, 0, none⟩ (.slice a' n' c'))) := hide_ (fun w2 v' h2 hb2 ho2 => by
    have i1 : Blk w2 gb 30 [.slice a0 l.length c0] := ho2 gb _ K1.out (by simp) (fun c fz e => by injection e with _ e _; revert e; decide)
    have e2 : w2.ownsRow B 5 1 v' (l ++ Lib.itoa n).length (Lib.byteCells (l ++ Lib.itoa n)) := by rw [Lib.byteCells_append, List.length_append]; exact h2
    have hkb : Kb B w w2 := ⟨hb2, fun k t ys h1 _ hk => ho2 k _ hk (by simp) (fun c fz e => by injection e with _ e _; exact h1 e)⟩
    obtain ⟨hx, hk⟩ := Bt.store hB hBw K1.out i1 e2 hkb (Nat.le_trans hBw hb2.size)
    obtain ⟨a', n', c', hv'⟩ := Bt.form3 e2
    subst hv'
    exact ⟨a', n', c', rfl, i1, hx, hk⟩)
  go_wp2_with (go_at_call 31; refine HC.out.mono ?_; rintro e w2 ⟨v', rfl, h2, hb2, ho2⟩; obtain ⟨a', n', c', rfl, i1, hx, hk⟩ := HQ.out w2 v' h2 hb2 ho2; (have HX := hide_ hx); (have HK := hide_ hk); (have y0 := i1.cell 0); (have yz := i1.frozen 0); simp at y0; clear hx hk h2 hb2 ho2 i1)
  exact bodyPost_end (results_none rfl _ _ _) rfl ⟨rfl, HX, HK⟩
end Go.Proofs.YteadmiikenpjeaaDoor
