/- closeDone. -/
import Derived.Test.YtlbgdgobhiokpaaDoorI
namespace Go.Proofs.YtlbgdgobhiokpaaDoor
open Go.RowKit
set_option linter.unusedVariables false

/-! ### Plain: the open nodes, the innermost first: how many kids have not ended, the kind -/
def closeM (f k : Int) : Stk → List Int × Stk
  | [] => if f = 0 then (endT k, []) else ([], [(f, k)])
  | (g, k2) :: T => if f = 0 then (endT k ++ (if 0 < g - 1 then [44, 32] else []) ++ (closeM (g - 1) k2 T).1, (closeM (g - 1) k2 T).2) else ([], (f, k) :: (g, k2) :: T)
def printM : List Nd → Stk → List Int
  | [], _ => []
  | x :: l, K => beginT x ++ (closeM x.2.2 x.1 K).1 ++ printM l (closeM x.2.2 x.1 K).2
theorem closeM_len : ∀ (T : Stk) (f k : Int), (closeM f k T).1.length + 3 * (closeM f k T).2.length ≤ 3 * T.length + 3
  | [], f, k => by
    have := endT_len k
    unfold closeM; split <;> simp; omega
  | (g, k2) :: T, f, k => by
    have := endT_len k
    have h2 := closeM_len T (g - 1) k2
    unfold closeM
    split
    · simp only [List.length_append, List.length_cons]
      have h3 : (if 0 < g - 1 then ([44, 32] : List Int) else []).length ≤ 2 := by split <;> simp
      omega
    · simp; omega
theorem printM_len : ∀ (l : List Nd) (K : Stk), (printM l K).length ≤ 26 * l.length + 3 * K.length
  | [], K => by simp [printM]
  | x :: l, K => by
    have h1 := beginT_len x
    have h2 := closeM_len K x.2.2 x.1
    have h3 := printM_len l (closeM x.2.2 x.1 K).2
    simp only [printM, List.length_append, List.length_cons]
    omega

/-! ### In memory -/
def opnC (K : Stk) : List Value := K.reverse.flatMap fun e => [.int .i64 e.1, .string (endS e.2)]
theorem opnC_cons (f k : Int) (T : Stk) : opnC ((f, k) :: T) = opnC T ++ [.int .i64 f, .string (endS k)] := by simp [opnC]
theorem opnC_len (T : Stk) : (opnC T).length = T.length * 2 := by
  induction T with
  | nil => rfl
  | cons e T ih => obtain ⟨f, k⟩ := e; rw [opnC_cons, List.length_append, ih]; simp; omega
def Opn (B : Nat) (w : World) (v : Value) (K : Stk) : Prop := w.ownsRow B 88 2 v K.length (opnC K)
section
variable {B : Nat} {w w' : World} {v : Value} {K T : Stk} {f k : Int} {g n cap : Nat}
theorem Opn.kept (h : Opn B w v K) (hk : Kept B w w') : Opn B w' v K := by
  refine ⟨h.1, ?_⟩
  rcases h.2 with hn | ⟨g, cap, cur, rfl, hb, hg, rest⟩
  · exact .inl hn
  · have hb2 : Blk w g 88 cur.toList := by unfold Blk; rw [Array.toArray_toList]; exact hg
    have h3 := hk.oth g 88 _ (by decide) hb2
    unfold Blk at h3
    rw [Array.toArray_toList] at h3
    exact .inr ⟨g, cap, cur, rfl, hb, h3, rest⟩
theorem Opn.later (h : Opn B w v K) (hB : Below w.heap.size w w') : Opn B w' v K := ownS_upd h (Upd.of_below (S := fun _ => False) hB) (fun _ _ h => h)
theorem Opn.form (h : Opn B w v ((f, k) :: T)) : ∃ g cap, v = .slice (some ⟨g, 0, none⟩) (T.length + 1) cap ∧ B ≤ g ∧ T.length + 1 ≤ cap ∧ cap ≤ maxLen := by
  obtain ⟨g, cap, ys, e, hb, hn, hm, -⟩ := ownS_blk h (by simp)
  exact ⟨g, cap, by simpa using e, hb, by simpa using hn, hm⟩
theorem Opn.top (h : Opn B w (.slice (some ⟨g, 0, none⟩) n cap) ((f, k) :: T)) :
    w.cell? ⟨g, T.length * 2, none⟩ = some (.int .i64 f) ∧ w.cell? ⟨g, T.length * 2 + 1, none⟩ = some (.string (endS k)) ∧ w.frozen? ⟨g, T.length * 2, none⟩ = false := by
  obtain ⟨g', cap', ys, e, hb, hn, hm, hl, ht, hK⟩ := ownS_blk h (by simp)
  obtain rfl : g = g' := by simpa using congrArg (fun v => match v with | Value.slice (some a) _ _ => a.block | _ => 0) e
  have hat : ∀ i, i < T.length * 2 + 2 → ys[i]? = (opnC ((f, k) :: T))[i]? := by
    intro i hi
    rw [← ht, List.getElem?_take, if_pos (by simp; omega)]
  refine ⟨?_, ?_, hK.frozen _⟩
  · rw [hK.cell, hat _ (by omega), opnC_cons, List.getElem?_append_right (by rw [opnC_len]; omega), opnC_len]; simp
  · rw [hK.cell, hat _ (by omega), opnC_cons, List.getElem?_append_right (by rw [opnC_len]; omega), opnC_len]; simp
theorem Opn.pop (h : Opn B w (.slice (some ⟨g, 0, none⟩) n cap) ((f, k) :: T)) : Opn B w (.slice (some ⟨g, 0, none⟩) T.length cap) T := by
  obtain ⟨g', cap', ys, e, hb, hn, hm, hl, ht, hK⟩ := ownS_blk h (by simp)
  have e1 : g = g' ∧ n = T.length + 1 ∧ cap = cap' := by simpa using e
  obtain ⟨rfl, rfl, rfl⟩ := e1
  have h2 := ownS_of_blk (n := T.length) hK hb hl (by simp at hn; omega) hm
  have e2 : ys.take (T.length * 2) = opnC T := by
    have h3 := congrArg (List.take (T.length * 2)) ht
    rw [List.take_take, Nat.min_eq_left (by simp; omega), opnC_cons, List.take_left' (opnC_len T)] at h3
    exact h3
  rw [e2] at h2
  exact h2
theorem Opn.set (h : Opn B w (.slice (some ⟨g, 0, none⟩) n cap) ((f, k) :: T)) (f' : Int) : Opn B (w.setCell ⟨g, T.length * 2, none⟩ (.int .i64 f')) (.slice (some ⟨g, 0, none⟩) n cap) ((f', k) :: T) := by
  obtain ⟨g', cap', ys, e, hb, hn, hm, hl, ht, hK⟩ := ownS_blk h (by simp)
  have e1 : g = g' ∧ n = T.length + 1 ∧ cap = cap' := by simpa using e
  obtain ⟨rfl, rfl, rfl⟩ := e1
  have h2 := ownS_of_blk (n := T.length + 1) (hK.set (T.length * 2) (.int .i64 f')) hb (by simpa using hl) (by simpa using hn) hm
  have e2 : (ys.set (T.length * 2) (.int .i64 f')).take ((T.length + 1) * 2) = opnC ((f', k) :: T) := by
    have h3 : ys.take ((T.length + 1) * 2) = opnC ((f, k) :: T) := by simpa using ht
    rw [List.take_set, h3, opnC_cons, opnC_cons, List.set_append_right _ _ (by rw [opnC_len]; omega), opnC_len]
    simp
  rw [e2] at h2
  exact h2
end
/-- Below B nothing has turned, above it nothing but bytes and open nodes. -/
structure Kept2 (B : Nat) (w w' : World) : Prop where
  bel : Below B w w'
  oth : ∀ g t xs, t ≠ 5 → t ≠ 88 → Blk w g t xs → Blk w' g t xs
section
variable {B : Nat} {w w' w1 : World} {v : Value} {l : List Int}
theorem Kept2.refl (B : Nat) (w : World) : Kept2 B w w := ⟨Below.refl _ _, fun _ _ _ _ _ h => h⟩
theorem Kept2.trans (h : Kept2 B w w1) (k : Kept2 B w1 w') : Kept2 B w w' := ⟨h.bel.trans k.bel, fun g t xs ht h8 hb => k.oth g t xs ht h8 (h.oth g t xs ht h8 hb)⟩
theorem Kept.two (h : Kept B w w') : Kept2 B w w' := ⟨h.bel, fun g t xs ht _ hb => h.oth g t xs ht hb⟩
theorem Kept2.set {K : Stk} (h : Opn B w v K) {g : Nat} (hg : v.ownBlock = some g) (i : Nat) (u : Value) : Kept2 B w (w.setCell ⟨g, i, none⟩ u) := by
  refine ⟨(Below.refl _ _).setCell (h.lt g hg).1 _, fun q t xs _ h8 hb => hb.other _ _ fun e => ?_⟩
  obtain ⟨ys, hy⟩ := ownS_type h hg
  have e2 : q = g := e
  subst e2
  exact h8 (blk_type hb hy)
theorem Txt.kept2 {K : Stk} (h : Txt B w v l) {vo : Value} (ho : Opn B w vo K) {g : Nat} (hg : vo.ownBlock = some g) (i : Nat) (u : Value) : Txt B (w.setCell ⟨g, i, none⟩ u) v l := by
  refine ownS_upd h ((Upd.refl (fun k => k = g) w).set _ _ (.inl rfl)) fun k hk e => ?_
  subst e
  obtain ⟨ys, hy⟩ := ownS_type ho hg
  obtain ⟨zs, hz⟩ := ownS_type h hk
  exact absurd (blk_type hy hz) (by decide)
end
theorem endS_cells (k : Int) : Lib.strCells (endS k) = cellsL .u8 (endT k) := by
  unfold endS endT
  split
  · rfl
  · split
    · rfl
    · split <;> rfl
set_option maxRecDepth 100000 in
set_option maxHeartbeats 8000000 in
theorem close_any (B : Nat) (f k : Int) (T : Stk) (vt vo : Value) (l : List Int) (w : World) (ht : Hid (Txt B w vt l)) (ho : Hid (Opn B w vo ((f, k) :: T))) (hl : l.length ≤ 10000000) (hT : T.length ≤ 1000000) (hB : B ≤ w.heap.size) (hf : ∀ e ∈ T, 0 < e.1 ∧ e.1 ≤ 1048576) :
    Calls Tryd.prog 36 #[vt, vo] w fun e w' => ∃ vt' vo', e = .returned (.tuple #[vt', vo']) ∧ Hid (Txt B w' vt' (l ++ (closeM f k T).1)) ∧ Hid (Opn B w' vo' (closeM f k T).2) ∧ Hid (Kept2 B w w') := by
  go_enter Tryd.func36, Tryd.ntmps36
  go_wp2_with fail
  go_loopw [0, 1] (fun x y wr => ∃ (vt' vo' : Value) (l' : List Int) (f' k' : Int) (T' : Stk), vt' = x ∧ vo' = y ∧ l'.length + 3 * T'.length ≤ l.length + 3 * T.length ∧ T'.length ≤ T.length ∧ Hid (Txt B wr vt' l') ∧ Hid (Opn B wr vo' ((f', k') :: T')) ∧ Hid (∀ e ∈ T', 0 < e.1 ∧ e.1 ≤ 1048576) ∧
      Hid (l' ++ (closeM f' k' T').1 = l ++ (closeM f k T).1) ∧ Hid ((closeM f' k' T').2 = (closeM f k T).2) ∧ Hid (Kept2 B w wr) ∧ Hid (B ≤ wr.heap.size)) (fun _ y _ => match y with | .slice _ n _ => n | _ => 0)
  case atStart => exact ⟨vt, vo, l, f, k, T, rfl, rfl, Nat.le_refl _, Nat.le_refl _, ht, ho, hf, rfl, rfl, Kept2.refl _ _, hB⟩
  case round =>
    clear ht ho hf
    obtain ⟨vt, vo, l', f', k', T', rfl, rfl, hlen, hT', HT, HO, HF, HL, HK, HE, HB⟩ := hrel
    obtain ⟨g, cap, rfl, hg, hn, hm⟩ := HO.out.form
    obtain ⟨c0, c1, z0⟩ := HO.out.top
    unfold maxLen at hm
    by_cases h0 : f' = 0
    · subst h0
      obtain ⟨v1, w1, r1, o1, k1⟩ := run_str HT.out (endS k') (endT k') (endS_cells k') (by have := endT_len k'; omega) (by omega) HB.out
      have R1 : Hid _ := r1
      have O1 : Hid (Txt B w1 v1 (l' ++ endT k')) := o1
      have K1 : Hid (Kept B wr w1) := k1
      have HO1 : Hid (Opn B w1 (.slice (some ⟨g, 0, none⟩) (T'.length + 1) cap) ((0, k') :: T')) := HO.out.kept k1
      clear r1 o1 k1
      cases T' with
      | nil =>
        simp only [List.length_nil, Nat.zero_mul, Nat.zero_add] at *
        have HL1 : Hid (l' ++ endT k' = l ++ (closeM f k T).1) := by have := HL.out; rw [closeM, if_pos rfl] at this; exact this
        have HK1 : Hid (([] : Stk) = (closeM f k T).2) := by have := HK.out; rw [closeM, if_pos rfl] at this; exact this
        have HP : Hid (Opn B w1 (.slice (some ⟨g, 0, none⟩) 0 cap) []) := HO1.out.pop
        clear HL HK HO HO1
        go_wp2_with (at_builtin; have _t := R1; refine wpList_append_run rfl (.tmp 20) (.tmp 27) 41 9 rfl rfl rfl R1.out ?_; clear R1)
        go_ret2
        exact ⟨_, _, rfl, HL1.out ▸ O1, HK1.out ▸ HP, HE.out.trans K1.out.two⟩
      | cons e T2 =>
        obtain ⟨g2, k2⟩ := e
        simp only [List.length_cons] at *
        have hg2 := HF.out (g2, k2) (by simp)
        simp only at hg2
        have HF2 : Hid (∀ e ∈ T2, 0 < e.1 ∧ e.1 ≤ 1048576) := fun e he => HF.out e (by simp [he])
        have HP : Hid (Opn B w1 (.slice (some ⟨g, 0, none⟩) (T2.length + 1) cap) ((g2, k2) :: T2)) := HO1.out.pop
        obtain ⟨d0, -, y0⟩ := HP.out.top
        have HS : Hid (Opn B (w1.setCell ⟨g, T2.length * 2, none⟩ (.int .i64 (g2 - 1))) (.slice (some ⟨g, 0, none⟩) (T2.length + 1) cap) ((g2 - 1, k2) :: T2)) := HP.out.set (g2 - 1)
        have HT1 : Hid (Txt B (w1.setCell ⟨g, T2.length * 2, none⟩ (.int .i64 (g2 - 1))) v1 (l' ++ endT k')) := Txt.kept2 (l := l' ++ endT k') O1.out HP.out rfl _ _
        have HE1 : Hid (Kept2 B w (w1.setCell ⟨g, T2.length * 2, none⟩ (.int .i64 (g2 - 1)))) := (HE.out.trans K1.out.two).trans (Kept2.set HP.out rfl _ _)
        have HL1 : Hid (l' ++ (endT k' ++ (if 0 < g2 - 1 then [44, 32] else []) ++ (closeM (g2 - 1) k2 T2).1) = l ++ (closeM f k T).1) := by have := HL.out; rw [closeM, if_pos rfl] at this; exact this
        have HK1 : Hid ((closeM (g2 - 1) k2 T2).2 = (closeM f k T).2) := by have := HK.out; rw [closeM, if_pos rfl] at this; exact this
        have HB1 : Hid (B ≤ (w1.setCell ⟨g, T2.length * 2, none⟩ (.int .i64 (g2 - 1))).heap.size) := by show _ ≤ _; rw [World.size_setCell]; exact Nat.le_trans HB.out K1.out.bel.size
        have hek := endT_len k'
        clear HL HK HO HO1 HP HF HT O1 HE
        by_cases h1 : 0 < g2 - 1
        · rw [if_pos h1] at HL1
          obtain ⟨v2, w2, r2, o2, k2'⟩ := run_str HT1.out ⟨#[44, 32]⟩ [44, 32] rfl (by simp) (by simp; omega) HB1.out
          have R2 : Hid _ := r2
          have O2 : Hid _ := o2
          have K2 : Hid (Kept B _ w2) := k2'
          have HS2 : Hid (Opn B w2 (.slice (some ⟨g, 0, none⟩) (T2.length + 1) cap) ((g2 - 1, k2) :: T2)) := HS.out.kept k2'
          clear r2 o2 k2' HT1 HS
          go_wp2_with (first | (at_builtin; have _t := R1; refine wpList_append_run rfl (.tmp 20) (.tmp 27) 41 9 rfl rfl rfl R1.out ?_; clear R1) | (at_builtin; have _t := R2; refine wpList_append_run rfl (.tmp 54) (.const (.string ⟨#[44, 32]⟩)) 41 9 rfl rfl rfl R2.out ?_; clear R2))
          go_roundw
          case rel => exact ⟨_, _, l' ++ endT k' ++ [44, 32], g2 - 1, k2, T2, rfl, rfl, by simp; omega, by omega, O2, HS2, HF2, by show _ = _; rw [← HL1.out]; simp, HK1, HE1.out.trans K2.out.two, Nat.le_trans HB1.out K2.out.bel.size⟩
          case measure => simp
        · rw [if_neg h1] at HL1
          go_wp2_with (at_builtin; have _t := R1; refine wpList_append_run rfl (.tmp 20) (.tmp 27) 41 9 rfl rfl rfl R1.out ?_; clear R1)
          go_roundw
          case rel => exact ⟨_, _, l' ++ endT k', g2 - 1, k2, T2, rfl, rfl, by simp; omega, by omega, HT1, HS, HF2, by show _ = _; rw [← HL1.out]; simp, HK1, HE1, HB1⟩
          case measure => simp
    · have e1 : closeM f' k' T' = ([], (f', k') :: T') := by cases T' <;> simp [closeM, h0]
      rw [e1] at HL HK
      rw [List.append_nil] at HL
      clear e1
      go_wp2
      go_ret2
      exact ⟨_, _, rfl, HL.out ▸ HT, HK.out ▸ HO, HE⟩
end Go.Proofs.YtlbgdgobhiokpaaDoor
