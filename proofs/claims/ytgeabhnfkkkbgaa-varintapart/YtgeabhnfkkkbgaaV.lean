/- VarintApart: got and want are made. -/
import Derived.Test.YtgeabhnfkkkbgaaU
namespace Go.Proofs.Ytgeabhnfkkkbgaa
open Go.RowKit
set_option linter.unusedVariables false

theorem ldS_append : ∀ (l : List Int) (r : List Int) (st st' : St), ldS st l = (st', 0) → ldS st (l ++ r) = ldS st' r
  | [], r, st, st', h => by
    rw [ldS_nil] at h
    injection h with h _
    subst h
    rfl
  | c :: l, r, st, st', h => by
    by_cases he : errS st c = 0
    · rw [ldS_go _ _ _ he] at h
      rw [List.cons_append, ldS_go _ _ _ he]
      exact ldS_append l r _ _ h
    · rw [ldS_stop _ _ _ he] at h
      injection h with _ h
      exact absurd h he
theorem form_ld (n : Nat) (hn : n < 18446744073709551616) : ldS ([], false) (form n) = ((form n, true), 0) := by
  have h1 := form_pos n
  obtain ⟨k1, k2⟩ := form_last n hn
  have hg := form_good n hn ((form n).length - 1) (by omega)
  have e := take_snoc (form n) ((form n).length - 1) (by omega)
  rw [show (form n).length - 1 + 1 = (form n).length from by omega, List.take_length] at e
  have hl : ((form n).take ((form n).length - 1)).length = (form n).length - 1 := by simp
  have h2 := ldS_append _ [(form n).getD ((form n).length - 1) 0] _ _ (good_load hg)
  rw [← e] at h2
  rw [h2, ldS_go _ _ _ (by simp only [errS, hl, k2, Bool.false_eq_true, if_false]), ldS_nil]
  simp only [nextS, hl, k2, Bool.false_eq_true, if_false]
  rw [← e, decide_eq_true k1]
theorem load_form (n s g : Nat) (w : World) (hn : n < 18446744073709551616) (hs : (form n).length = s) (hb : Blk w g 5 (cellsL .u8 (form n))) :
    Calls Try.prog 15 #[.slice (some ⟨g, 0, none⟩) s s] w fun e w' => ∃ b, e = .returned (.tuple #[.pointer (some ⟨b, 0, none⟩), .int .i64 0]) ∧ w.heap.size ≤ b ∧ Hid (Rdr w' b (form n) true) ∧ Hid (TkN (form n)) ∧ Below w.heap.size w w' := by
  have h10 := form_ten n hn
  refine (load_any _ s s (form n) w hs (by unfold maxLen; omega) hb.row (form_bys n)).mono ?_
  rintro e w' ⟨hB, ⟨b, st, h1, rfl, h2, h3, h4⟩ | ⟨st, r, h1, h2, rfl⟩⟩
  · rw [form_ld n hn] at h1
    injection h1 with h1 _
    subst h1
    exact ⟨b, rfl, h2, h3, h4.1, hB⟩
  · rw [form_ld n hn] at h1
    injection h1 with _ h1
    exact absurd h1.symm h2
theorem cont_n (n m t i : Nat) (h : i ≠ 1) (hi : i < 4) : cont n m (4 * t + i) = form n := by unfold cont; rw [if_neg (by omega)]
theorem cont_0 (n m t : Nat) : cont n m (4 * t) = form n := by unfold cont; rw [if_neg (by omega)]
theorem czs_0 (n m t : Nat) : czs n m (4 * t) = (form n).length := by unfold czs; rw [cont_0]
theorem cont_m (n m t : Nat) : cont n m (4 * t + 1) = form m := by unfold cont; rw [if_pos (by omega)]
theorem czs_n (n m t i : Nat) (h : i ≠ 1) (hi : i < 4) : czs n m (4 * t + i) = (form n).length := by unfold czs; rw [cont_n n m t i h hi]
theorem czs_m (n m t : Nat) : czs n m (4 * t + 1) = (form m).length := by unfold czs; rw [cont_m]
/-- The four lists of one turn, in a literal. -/
def Lit4 (n m : Nat) (w : World) (bl t : Nat) (g : Nat → Nat) : Prop := ∀ i, i < 4 → w.cell? ⟨bl, i, none⟩ = some (slG n m g (4 * t + i))
theorem ap_start (n m B : Nat) (w : World) (b : Nat) (hR : Rdr w b (form n) true) (hb : B ≤ b) : Ap n m B w (.slice none 0 0) (.slice none 0 0) b 0 0 0 (fun _ => 0) (fun _ => 0) (fun _ => 0) (cont n m) :=
  ⟨RowV.nil _ _ _, RowV.nil _ _ _, fun j hj => by omega, fun j hj => by omega, fun j hj => by omega, fun j hj => by omega, fun i j hi => by omega, fun i j hi => by omega, (fun k hk => by cases hk), hR, hb⟩
/-- What the first loop keeps. -/
def Turn (n m B : Nat) (w0 w : World) (vG vW : Value) (b t : Nat) : Prop := (∃ g h c, Ap n m B w vG vW b (4 * t) (4 * t) (4 * t) g h c (cont n m)) ∧ Below B w0 w
/-- What the second loop keeps. -/
def Turn4 (n m B : Nat) (w0 w : World) (vG vW : Value) (b t k bl : Nat) (g : Nat → Nat) : Prop :=
  (∃ h c, Ap n m B w vG vW b (4 * t + 4) (4 * t + k) (4 * t + k) g h c (cont n m)) ∧ Lit4 n m w bl t g ∧ vG.ownBlock ≠ some bl ∧ vW.ownBlock ≠ some bl ∧ bl < w.heap.size ∧ Below B w0 w
/-- The new literal. -/
theorem lit4_new (n m s t0 t ga gb gc gd : Nat) (g : Nat → Nat) (w : World) (hs : (form n).length = s) (ht : (form m).length = t0) :
    Lit4 n m (w.alloc (.cells #[.slice (some ⟨ga, 0, none⟩) s s, .slice (some ⟨gb, 0, none⟩) t0 t0, .slice (some ⟨gc, 0, none⟩) s s, .slice (some ⟨gd, 0, none⟩) s s] 23)) w.heap.size t
      (ext (ext (ext (ext g (4 * t) ga) (4 * t + 1) gb) (4 * t + 1 + 1) gc) (4 * t + 1 + 1 + 1) gd) := by
  intro i hi
  rw [(Blk.newA w _ 23).cell i]
  unfold slG
  match i, hi with
  | 0, _ =>
    rw [show 4 * t + 0 = 4 * t from rfl, ext_ne _ _ _ _ (by omega), ext_ne _ _ _ _ (by omega), ext_ne _ _ _ _ (by omega), ext_at, czs_0, hs]; rfl
  | 1, _ =>
    rw [ext_ne _ _ _ _ (by omega), ext_ne _ _ _ _ (by omega), ext_at, czs_m, ht]; rfl
  | 2, _ =>
    rw [ext_ne _ _ _ _ (by omega), show 4 * t + 2 = 4 * t + 1 + 1 from rfl, ext_at, show 4 * t + 1 + 1 = 4 * t + 2 from rfl, czs_n n m t 2 (by omega) (by omega), hs]; rfl
  | 3, _ =>
    rw [show 4 * t + 3 = 4 * t + 1 + 1 + 1 from rfl, ext_at, show 4 * t + 1 + 1 + 1 = 4 * t + 3 from rfl, czs_n n m t 3 (by omega) (by omega), hs]; rfl
theorem turn_start {n m B : Nat} {w0 w w' : World} {vG vW : Value} {b t : Nat} {g h c : Nat → Nat} (a : Ap n m B w vG vW b (4 * t + 1 + 1 + 1 + 1) (4 * t) (4 * t) g h c (cont n m)) (hB : Below B w0 w) (hw : Below w.heap.size w w') (hl : Lit4 n m w' w.heap.size t g) (hs : w.heap.size < w'.heap.size) :
    Turn4 n m B w0 w' vG vW b t 0 w.heap.size g := by
  refine ⟨⟨h, c, ?_⟩, hl, fun e => ?_, fun e => ?_, hs, hB.trans (hw.mono a.hB)⟩
  · rw [Nat.add_zero]; exact a.later hw
  · have := (a.rG.lt _ e).2; omega
  · have := (a.rW.lt _ e).2; omega
/-- One list goes into got, its copy into want. -/
theorem turn_push {n m B : Nat} {w0 w : World} {vG vW : Value} {b t k bl : Nat} {g : Nat → Nat} (hn : n < 18446744073709551616) (hm : m < 18446744073709551616) (hk : k < 4) (ht : t < 3) (T : Turn4 n m B w0 w vG vW b t k bl g) :
    ∃ g1 c1 w1 x cx w2 g3 c3 w3,
      (Builtin.append_ #[44, 44] 44 #[vG, .slice (some ⟨w.heap.size, 0, none⟩) 1 1]).run Try.prog (w.alloc (.cells #[slG n m g (4 * t + k)] 23)) = .ok (.slice (some ⟨g1, 0, none⟩) (4 * t + k + 1) c1) w1 ∧
      w1.cell? ⟨bl, k, none⟩ = some (slG n m g (4 * t + k)) ∧
      (Builtin.append_ #[23, 23] 23 #[.slice none 0 0, slG n m g (4 * t + k)]).run Try.prog w1 = .ok (.slice (some ⟨x, 0, none⟩) (czs n m (4 * t + k)) cx) w2 ∧
      (Builtin.append_ #[44, 44] 44 #[vW, .slice (some ⟨w2.heap.size, 0, none⟩) 1 1]).run Try.prog (w2.alloc (.cells #[.slice (some ⟨x, 0, none⟩) (czs n m (4 * t + k)) cx] 23)) = .ok (.slice (some ⟨g3, 0, none⟩) (4 * t + k + 1) c3) w3 ∧
      Turn4 n m B w0 w3 (.slice (some ⟨g1, 0, none⟩) (4 * t + k + 1) c1) (.slice (some ⟨g3, 0, none⟩) (4 * t + k + 1) c3) b t (k + 1) bl g := by
  obtain ⟨⟨h, c, a⟩, hl, hG, hW, hbl, hB⟩ := T
  have hc10 := czs_ten n m (4 * t + k) hn hm
  have hc1 := czs_one n m (4 * t + k)
  obtain ⟨g1, c1, w1, r1, p1, u1, l1⟩ := a.rG.push rfl (by omega) a.hB
  have a1 := a.pushG p1 u1 (fun k hk => by injection hk with hk; subst hk; exact l1)
  have hcell1 : ∀ i, i < 4 → w1.cell? ⟨bl, i, none⟩ = some (slG n m g (4 * t + i)) := fun i hi => by
    rw [World.cell?_of_block (w := w) (u1.block bl hbl hG)]; exact hl i hi
  have hrow : Row .u8 w1 (some ⟨g (4 * t + k), 0, none⟩) (cont n m (4 * t + k)) := (a1.bG _ (by omega)).row
  obtain ⟨v2, w2, r2, o2, gr2⟩ := run_copy E23 w1 23 w1.heap.size (some ⟨g (4 * t + k), 0, none⟩) (czs n m (4 * t + k)) (czs n m (4 * t + k)) (cont n m (4 * t + k)) rfl hrow (fun h => by cases h) (by unfold maxLen; omega) (by omega) (Nat.le_refl _)
  have hB12 : Below w1.heap.size w1 w2 := (Below.refl _ _).grown gr2 (Nat.le_refl _) (fun k hk => by cases hk)
  obtain ⟨x, cx, ys, rfl, hx, _, _, _, hys, hbx⟩ := own_blk o2 (by omega)
  have a2 := a1.later hB12
  have rW2 : RowV B w2 vW (4 * t + k) (slW n m (ext h (4 * t + k) x) (ext c (4 * t + k) cx)) := a2.rW.congr (fun j hj => by unfold slW; rw [ext_ne _ _ _ _ (by omega), ext_ne _ _ _ _ (by omega)])
  obtain ⟨g3, c3, w3, r3, p3, u3, l3⟩ := rW2.push rfl (by omega) a2.hB
  have e3 : slW n m (ext h (4 * t + k) x) (ext c (4 * t + k) cx) (4 * t + k) = .slice (some ⟨x, 0, none⟩) (czs n m (4 * t + k)) cx := by unfold slW; rw [ext_at, ext_at]
  rw [e3] at r3
  have a3 := a1.pushW hB12 x cx hx ys hbx hys p3 u3 (fun k hk => by injection hk with hk; subst hk; exact l3)
  have h12 := hB12.size
  have h01 := u1.size
  refine ⟨g1, c1, w1, x, cx, w2, g3, c3, w3, r1, hcell1 k hk, r2, r3, ⟨_, _, a3⟩, fun i hi => ?_, fun e => ?_, fun e => ?_, by have := u3.size; omega, ?_⟩
  · rw [World.cell?_of_block (w := w2) (u3.block bl (by omega) hW), hB12.cell (p := ⟨bl, i, none⟩) (by simp only; omega)]; exact hcell1 i hi
  · injection e with e
    have e' : g1 = bl := e
    subst e'
    rcases l1 with e | e
    · exact hG e
    · omega
  · injection e with e
    have e' : g3 = bl := e
    subst e'
    rcases l3 with e | e
    · exact hW e
    · omega
  · exact ((hB.trans (u1.below B a.hB (fun k hk => (a.rG.lt k hk).1))).trans (hB12.mono a1.hB)).trans (u3.below B a2.hB (fun k hk => (a2.rW.lt k hk).1))
end Go.Proofs.Ytgeabhnfkkkbgaa
