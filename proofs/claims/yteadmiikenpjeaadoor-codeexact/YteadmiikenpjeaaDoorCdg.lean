/- Code: bytes under way; Encode's closures. -/
import Derived.Test.YteadmiikenpjeaaDoorCdf
import Derived.Test.YteadmiikenpjeaaDoorCvd
namespace Go.Proofs.YteadmiikenpjeaaDoor
open Go.RowKit
set_option linter.unusedVariables false

/-- A box of bytes of the call's own. -/
def Bx (w : World) (B gb : Nat) (l : List Int) : Prop := B ≤ gb ∧ ∃ v, Blk w gb 30 [v] ∧ w.ownsRow B 5 1 v l.length (cellsL .u8 l)
/-- What a call leaves alone. -/
def Kb (B : Nat) (w w' : World) : Prop := Below B w w' ∧ ∀ (k : Nat) (t : TypeId) (ys : List Value), t ≠ 5 → t ≠ 30 → Blk w k t ys → Blk w' k t ys
theorem Kb.refl (B : Nat) (w : World) : Kb B w w := ⟨Below.refl _ _, fun _ _ _ _ _ h => h⟩
theorem Kb.trans {B : Nat} {w w' w'' : World} (h : Kb B w w') (k : Kb B w' w'') : Kb B w w'' := ⟨h.1.trans k.1, fun j t ys h1 h2 h4 => k.2 j t ys h1 h2 (h.2 j t ys h1 h2 h4)⟩
theorem Kb.of_below {B : Nat} {w w' : World} (hB : B ≤ w.heap.size) (h : Below w.heap.size w w') : Kb B w w' := ⟨h.mono hB, fun j t ys _ _ h4 => h4.later h⟩
theorem Kb.of_upd {B : Nat} {S : Nat → Prop} {w w' : World} (hB : B ≤ w.heap.size) (h : Upd S w w') (hs : ∀ k, S k → B ≤ k) (ht : ∀ k, S k → ∃ t ys, Blk w k t ys ∧ (t = 5 ∨ t = 30)) : Kb B w w' := by
  refine ⟨h.below B hB hs, fun j t ys h1 h2 h4 => h4.upd h (fun hj => ?_)⟩
  obtain ⟨t', ys', k1, k2⟩ := ht j hj
  have := blk_type h4 k1
  subst this
  rcases k2 with k2 | k2
  · exact h1 k2
  · exact h2 k2
theorem Bx.later {w w' : World} {B gb : Nat} {l : List Int} (h : Bx w B gb l) (hB : Below w.heap.size w w') : Bx w' B gb l := by
  obtain ⟨h1, v, k1, k2⟩ := h
  exact ⟨h1, v, k1.later hB, ownS_upd k2 (Upd.of_below (S := fun _ => False) hB) (fun _ _ h => h)⟩
theorem Bx.size {w : World} {B gb : Nat} {l : List Int} (h : Bx w B gb l) : B ≤ w.heap.size := by
  obtain ⟨h1, v, k1, _⟩ := h
  exact Nat.le_trans h1 (Nat.le_of_lt k1.lt)
/-- Bytes appended, out of the memory of a row. -/
theorem Bx.app {w w1 : World} {B gb : Nat} {l r : List Int} {v : Value} (hB : B ≤ gb) (k1 : Blk w gb 30 [v]) (k2 : w.ownsRow B 5 1 v l.length (cellsL .u8 l)) (hb : Below w.heap.size w w1) (a : Option Addr) (m cap : Nat) (hr : r.length = m) (hrow : Row .u8 w1 a r) (hnil : a = none → cap = 0) (hl : l.length + r.length ≤ 100000000000) :
    ∃ v' w2, (Builtin.append_ #[30, 30] 30 #[v, .slice a m cap]).run Tryd.prog w1 = .ok v' w2 ∧ (∃ a' n' c', v' = .slice a' n' c') ∧ Blk w2 gb 30 [v] ∧ Bx (w2.setCell ⟨gb, 0, none⟩ v') B gb (l ++ r) ∧ Kb B w (w2.setCell ⟨gb, 0, none⟩ v') := by
  have hBw : B ≤ w.heap.size := Nat.le_trans hB (Nat.le_of_lt k1.lt)
  have j1 := k1.later hb
  have j2 := ownS_upd k2 (Upd.of_below (S := fun _ => False) hb) (fun _ _ h => h)
  obtain ⟨v', w2, h1, h2, h3⟩ := run_app E23 w1 30 B v l.length l j2 a m cap r hr hrow hnil (by unfold maxLen; omega) (by omega) (Nat.le_trans hBw hb.size)
  have hnb : ¬ v.ownBlock = some gb := fun e => by
    obtain ⟨zs, hz⟩ := ownS_type j2 e
    exact absurd (blk_type j1 hz) (by decide)
  have hu : Upd (fun k => v.ownBlock = some k) w1 w2 := (Upd.refl (fun k => v.ownBlock = some k) w1).grown h3 (fun k e => .inl e)
  have i1 := j1.upd hu hnb
  have e2 : w2.ownsRow B 5 1 v' (l ++ r).length (cellsL .u8 (l ++ r)) := by rw [List.length_append, hr]; exact h2
  have hU3 : Upd (fun k => k = gb) w2 (w2.setCell ⟨gb, 0, none⟩ v') := (Upd.refl _ w2).set _ _ (.inl rfl)
  obtain ⟨a', c', e', -⟩ := own_open e2 rfl
  refine ⟨v', w2, h1, ⟨a', _, c', e'⟩, i1, ⟨hB, v', by have := i1.set 0 v'; simpa using this, ownS_upd e2 hU3 (fun k hk e => ?_)⟩, ?_⟩
  · subst e
    obtain ⟨zs, hz⟩ := ownS_type e2 hk
    exact absurd (blk_type i1 hz) (by decide)
  · refine (Kb.of_below hBw hb).trans (Kb.trans (w' := w2) ?_ ?_)
    · refine Kb.of_upd (Nat.le_trans hBw hb.size) hu (fun k e => (World.ownsRow.lt j2 k e).1) (fun k e => ?_)
      obtain ⟨zs, hz⟩ := ownS_type j2 e
      exact ⟨_, _, hz, .inl rfl⟩
    · exact Kb.of_upd (Nat.le_trans hBw (Nat.le_trans hb.size hu.size)) hU3 (fun k e => by subst e; exact hB) (fun k e => by subst e; exact ⟨_, _, i1, .inr rfl⟩)
set_option maxRecDepth 100000 in
set_option maxHeartbeats 4000000 in
theorem put_c (B gb : Nat) (l : List Int) (n : Nat) (w : World) (hn : n ≤ 4611686018427387904) (hl : l.length ≤ 10000000000) (H : Hid (Bx w B gb l)) :
    Calls Tryd.prog 24 #[.int .i64 (n : Int), .pointer (some ⟨gb, 0, none⟩)] w fun e w' => e = .returned (.tuple #[]) ∧ Hid (Bx w' B gb (l ++ form n)) ∧ Hid (Kb B w w') := by
  obtain ⟨hB, v, k1, k2⟩ := H.out
  have hu : IntKind.u64.wrap (n : Int) = n := by rw [IntKind.wrap_u64]; omega
  have HPut : Hid (∀ w', Calls Tryd.prog 25 #[.int .u64 (n : Int)] w' fun e w'' => ∃ g, e = .returned (.slice (some ⟨g, 0, none⟩) (form n).length (form n).length) ∧ w'.heap.size ≤ g ∧ Blk w'' g 5 (cellsL .u8 (form n)) ∧ Below w'.heap.size w' w'') := hide_ (fun w' => put_any n w' (by omega))
  have hf10 := form_ten n (by omega)
  have K1 := hide_ k1
  have K2 := hide_ k2
  obtain ⟨av, cv, hv, -⟩ := own_open k2 rfl
  subst hv
  have HSS : Hid (∀ w', Below w.heap.size w w' → (fun w' => w'.cell? ⟨gb, 0, none⟩ = some (.slice av l.length cv)) w') := hide_ (fun w' hb => by have := (K1.out.later hb).cell 0; simpa using this)
  clear k1 k2
  go_enter Tryd.func24, Tryd.ntmps24
  go_upto_region 0 with fail
  --R0
  refine wp_region_last 5 (fun w' => w'.cell? ⟨gb, 0, none⟩ = some (.slice av l.length cv)) (by kernel_rfl) (HSS.out _ ((Below.refl w.heap.size w).drew)) (fun hHeld => ?_)
  refine wpAnyF_take [5] (by kernel_rfl) (i := 0) (v := ?vf1) rfl (by kernel_rfl) (by kernel_rfl) (by kernel_rfl) (fun _ _ _ h => h) (Or.inl ⟨by kernel_rfl, ?hyf1⟩) hHeld ?restf1
  case hyf1 => intro w' hSw; (try dsimp only at hSw); go_simp; try with_reducible rfl
  simp only [Act.put]
  refine wpAnyF_take [5] (by kernel_rfl) (i := 1) (v := ?vf2) rfl (by kernel_rfl) (by kernel_rfl) (by kernel_rfl) (fun _ _ _ h => h) (Or.inl ⟨by kernel_rfl, ?hyf2⟩) hHeld ?restf2
  case hyf2 => intro w' hSw; (try dsimp only at hSw); go_simp; try with_reducible rfl
  simp only [Act.put]
  refine wpAnyF_take [5] (by kernel_rfl) (i := 2) (v := ?vf3) rfl (by kernel_rfl) (by kernel_rfl) (by kernel_rfl) (fun _ _ _ h => h) (Or.inl ⟨by kernel_rfl, ?hyf3⟩) hHeld ?restf3
  case hyf3 => intro w' hSw; (try dsimp only at hSw); go_simp; try with_reducible rfl
  simp only [Act.put]
  refine wpAnyF_ready (rs := [3]) (by kernel_rfl) (by simp) ?_
  refine AllReadyF.cons rfl (fun K hK => ?_) AllReadyF.nil
  go_simp
  refine (HPut.out _).mono ?_
  rintro e wC ⟨g, rfl, hg, hbk, hbC⟩
  dsimp only
  have HBC := hide_ (below_to ((Below.refl w.heap.size w).drew) hbC)
  have HRow : Hid (Row .u8 wC (some ⟨g, 0, none⟩) (form n)) := hide_ hbk.row
  clear hbC hbk hg
  refine hK.out _ _ (HSS.out _ HBC.out) (fun hHeld => ?_)
  clear hK K
  refine wpAnyF_ready (rs := [4]) (by kernel_rfl) (by simp) ?_
  refine AllReadyF.cons rfl (fun K hK => ?_) AllReadyF.nil
  obtain ⟨v', w2, hr, ⟨a', n', c', hv'⟩, i1, hx, hk⟩ := Bx.app hB K1.out K2.out HBC.out (some ⟨g, 0, none⟩) (form n).length (form n).length rfl HRow.out (fun h => by cases h) (by omega)
  subst hv'
  have HR := hide_ hr
  have HX := hide_ hx
  have HK := hide_ hk
  have I1 := hide_ i1
  clear hr hx hk i1
  refine step_append_run rfl (.tmp 3) (.tmp 6) 30 30 rfl (v := .slice av l.length cv) (u := .slice (some ⟨g, 0, none⟩) (form n).length (form n).length) (by kernel_rfl) (by kernel_rfl) HR.out ?_
  simp only [Act.put]
  refine hK.out _ _ (by have := I1.out.cell 0; simpa using this) (fun hHeld => ?_)
  clear hK K
  refine wpAnyF_ready (rs := [5]) (by kernel_rfl) (by simp) ?_
  refine AllReadyF.last rfl (fun K hK => ?_)
  have c0 := I1.out.cell 0; have z0 := I1.out.frozen 0
  simp at c0
  go_simp
  refine hK.out _ _ ?_
  clear hK K
  refine wpAnyF_done (by kernel_rfl) ?_ _
  clear HSS
  go_wp2
  exact bodyPost_end (results_none rfl _ _ _) rfl ⟨rfl, HX, HK⟩
  --/R0
end Go.Proofs.YteadmiikenpjeaaDoor
