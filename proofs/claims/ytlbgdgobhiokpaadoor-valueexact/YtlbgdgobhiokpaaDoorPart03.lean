import Derived.Test.YtlbgdgobhiokpaaDoorPart02

/- closeDone. -/
namespace Go.Proofs.YtlbgdgobhiokpaaDoor
open Go.RowKit
set_option linter.unusedVariables false

/-! ### Plain: the open nodes, the innermost first: how many kids have not ended, the kind -/
def closeM (f k : Int) : Stk → List Int × Stk
  | [] => if f = 0 then (endT k, []) else ([], [(f, k)])
  | (g, k2) :: T => if f = 0 then (endT k ++ (if 0 < g - 1 then [44, 32] else []) ++ (closeM (g - 1) k2 T).1, (closeM (g - 1) k2 T).2) else ([], (f, k) :: (g, k2) :: T)
def printM : List Nd → Stk → List Int
  | [], _ => []
  | x :: l, K => beginT x ++ (closeM x.2.2 x.1 K).1 ++ printM l (closeM x.2.2 x.1 K).2
theorem closeM_len : ∀ (T : Stk) (f k : Int), (closeM f k T).1.length + 3 * (closeM f k T).2.length ≤ 3 * T.length + 3
  | [], f, k => by
    have := endT_len k
    unfold closeM; split <;> simp; omega
  | (g, k2) :: T, f, k => by
    have := endT_len k
    have h2 := closeM_len T (g - 1) k2
    unfold closeM
    split
    · simp only [List.length_append, List.length_cons]
      have h3 : (if 0 < g - 1 then ([44, 32] : List Int) else []).length ≤ 2 := by split <;> simp
      omega
    · simp; omega
theorem printM_len : ∀ (l : List Nd) (K : Stk), (printM l K).length ≤ 26 * l.length + 3 * K.length
  | [], K => by simp [printM]
  | x :: l, K => by
    have h1 := beginT_len x
    have h2 := closeM_len K x.2.2 x.1
    have h3 := printM_len l (closeM x.2.2 x.1 K).2
    simp only [printM, List.length_append, List.length_cons]
    omega

/-! ### In memory -/
def opnC (K : Stk) : List Value := K.reverse.flatMap fun e => [.int .i64 e.1, .string (endS e.2)]
theorem opnC_cons (f k : Int) (T : Stk) : opnC ((f, k) :: T) = opnC T ++ [.int .i64 f, .string (endS k)] := by simp [opnC]
theorem opnC_len (T : Stk) : (opnC T).length = T.length * 2 := by
  induction T with
  | nil => rfl
  | cons e T ih => obtain ⟨f, k⟩ := e; rw [opnC_cons, List.length_append, ih]; simp; omega
def Opn (B : Nat) (w : World) (v : Value) (K : Stk) : Prop := w.ownsRow B 88 2 v K.length (opnC K)
section
variable {B : Nat} {w w' : World} {v : Value} {K T : Stk} {f k : Int} {g n cap : Nat}
theorem Opn.kept (h : Opn B w v K) (hk : Kept B w w') : Opn B w' v K := by
  refine ⟨h.1, ?_⟩
  rcases h.2 with hn | ⟨g, cap, cur, rfl, hb, hg, rest⟩
  · exact .inl hn
  · have hb2 : Blk w g 88 cur.toList := by unfold Blk; rw [Array.toArray_toList]; exact hg
    have h3 := hk.oth g 88 _ (by decide) hb2
    unfold Blk at h3
    rw [Array.toArray_toList] at h3
    exact .inr ⟨g, cap, cur, rfl, hb, h3, rest⟩
theorem Opn.later (h : Opn B w v K) (hB : Below w.heap.size w w') : Opn B w' v K := ownS_upd h (Upd.of_below (S := fun _ => False) hB) (fun _ _ h => h)
theorem Opn.form (h : Opn B w v ((f, k) :: T)) : ∃ g cap, v = .slice (some ⟨g, 0, none⟩) (T.length + 1) cap ∧ B ≤ g ∧ T.length + 1 ≤ cap ∧ cap ≤ maxLen := by
  obtain ⟨g, cap, ys, e, hb, hn, hm, -⟩ := ownS_blk h (by simp)
  exact ⟨g, cap, by simpa using e, hb, by simpa using hn, hm⟩
theorem Opn.top (h : Opn B w (.slice (some ⟨g, 0, none⟩) n cap) ((f, k) :: T)) :
    w.cell? ⟨g, T.length * 2, none⟩ = some (.int .i64 f) ∧ w.cell? ⟨g, T.length * 2 + 1, none⟩ = some (.string (endS k)) ∧ w.frozen? ⟨g, T.length * 2, none⟩ = false := by
  obtain ⟨g', cap', ys, e, hb, hn, hm, hl, ht, hK⟩ := ownS_blk h (by simp)
  obtain rfl : g = g' := by simpa using congrArg (fun v => match v with | Value.slice (some a) _ _ => a.block | _ => 0) e
  have hat : ∀ i, i < T.length * 2 + 2 → ys[i]? = (opnC ((f, k) :: T))[i]? := by
    intro i hi
    rw [← ht, List.getElem?_take, if_pos (by simp; omega)]
  refine ⟨?_, ?_, hK.frozen _⟩
  · rw [hK.cell, hat _ (by omega), opnC_cons, List.getElem?_append_right (by rw [opnC_len]; omega), opnC_len]; simp
  · rw [hK.cell, hat _ (by omega), opnC_cons, List.getElem?_append_right (by rw [opnC_len]; omega), opnC_len]; simp
theorem Opn.pop (h : Opn B w (.slice (some ⟨g, 0, none⟩) n cap) ((f, k) :: T)) : Opn B w (.slice (some ⟨g, 0, none⟩) T.length cap) T := by
  obtain ⟨g', cap', ys, e, hb, hn, hm, hl, ht, hK⟩ := ownS_blk h (by simp)
  have e1 : g = g' ∧ n = T.length + 1 ∧ cap = cap' := by simpa using e
  obtain ⟨rfl, rfl, rfl⟩ := e1
  have h2 := ownS_of_blk (n := T.length) hK hb hl (by simp at hn; omega) hm
  have e2 : ys.take (T.length * 2) = opnC T := by
    have h3 := congrArg (List.take (T.length * 2)) ht
    rw [List.take_take, Nat.min_eq_left (by simp; omega), opnC_cons, List.take_left' (opnC_len T)] at h3
    exact h3
  rw [e2] at h2
  exact h2
theorem Opn.set (h : Opn B w (.slice (some ⟨g, 0, none⟩) n cap) ((f, k) :: T)) (f' : Int) : Opn B (w.setCell ⟨g, T.length * 2, none⟩ (.int .i64 f')) (.slice (some ⟨g, 0, none⟩) n cap) ((f', k) :: T) := by
  obtain ⟨g', cap', ys, e, hb, hn, hm, hl, ht, hK⟩ := ownS_blk h (by simp)
  have e1 : g = g' ∧ n = T.length + 1 ∧ cap = cap' := by simpa using e
  obtain ⟨rfl, rfl, rfl⟩ := e1
  have h2 := ownS_of_blk (n := T.length + 1) (hK.set (T.length * 2) (.int .i64 f')) hb (by simpa using hl) (by simpa using hn) hm
  have e2 : (ys.set (T.length * 2) (.int .i64 f')).take ((T.length + 1) * 2) = opnC ((f', k) :: T) := by
    have h3 : ys.take ((T.length + 1) * 2) = opnC ((f, k) :: T) := by simpa using ht
    rw [List.take_set, h3, opnC_cons, opnC_cons, List.set_append_right _ _ (by rw [opnC_len]; omega), opnC_len]
    simp
  rw [e2] at h2
  exact h2
end
/-- Below B nothing has turned, above it nothing but bytes and open nodes. -/
structure Kept2 (B : Nat) (w w' : World) : Prop where
  bel : Below B w w'
  oth : ∀ g t xs, t ≠ 5 → t ≠ 88 → Blk w g t xs → Blk w' g t xs
section
variable {B : Nat} {w w' w1 : World} {v : Value} {l : List Int}
theorem Kept2.refl (B : Nat) (w : World) : Kept2 B w w := ⟨Below.refl _ _, fun _ _ _ _ _ h => h⟩
theorem Kept2.trans (h : Kept2 B w w1) (k : Kept2 B w1 w') : Kept2 B w w' := ⟨h.bel.trans k.bel, fun g t xs ht h8 hb => k.oth g t xs ht h8 (h.oth g t xs ht h8 hb)⟩
theorem Kept.two (h : Kept B w w') : Kept2 B w w' := ⟨h.bel, fun g t xs ht _ hb => h.oth g t xs ht hb⟩
theorem Kept2.set {K : Stk} (h : Opn B w v K) {g : Nat} (hg : v.ownBlock = some g) (i : Nat) (u : Value) : Kept2 B w (w.setCell ⟨g, i, none⟩ u) := by
  refine ⟨(Below.refl _ _).setCell (h.lt g hg).1 _, fun q t xs _ h8 hb => hb.other _ _ fun e => ?_⟩
  obtain ⟨ys, hy⟩ := ownS_type h hg
  have e2 : q = g := e
  subst e2
  exact h8 (blk_type hb hy)
theorem Txt.kept2 {K : Stk} (h : Txt B w v l) {vo : Value} (ho : Opn B w vo K) {g : Nat} (hg : vo.ownBlock = some g) (i : Nat) (u : Value) : Txt B (w.setCell ⟨g, i, none⟩ u) v l := by
  refine ownS_upd h ((Upd.refl (fun k => k = g) w).set _ _ (.inl rfl)) fun k hk e => ?_
  subst e
  obtain ⟨ys, hy⟩ := ownS_type ho hg
  obtain ⟨zs, hz⟩ := ownS_type h hk
  exact absurd (blk_type hy hz) (by decide)
end
theorem endS_cells (k : Int) : Lib.strCells (endS k) = cellsL .u8 (endT k) := by
  unfold endS endT
  split
  · rfl
  · split
    · rfl
    · split <;> rfl
set_option maxRecDepth 100000 in
set_option maxHeartbeats 8000000 in
theorem close_any (B : Nat) (f k : Int) (T : Stk) (vt vo : Value) (l : List Int) (w : World) (ht : Hid (Txt B w vt l)) (ho : Hid (Opn B w vo ((f, k) :: T))) (hl : l.length ≤ 10000000) (hT : T.length ≤ 1000000) (hB : B ≤ w.heap.size) (hf : ∀ e ∈ T, 0 < e.1 ∧ e.1 ≤ 1048576) :
    Calls Tryd.prog 36 #[vt, vo] w fun e w' => ∃ vt' vo', e = .returned (.tuple #[vt', vo']) ∧ Hid (Txt B w' vt' (l ++ (closeM f k T).1)) ∧ Hid (Opn B w' vo' (closeM f k T).2) ∧ Hid (Kept2 B w w') := by
  go_enter Tryd.func36, Tryd.ntmps36
  go_wp2_with fail
  go_loopw [0, 1] (fun x y wr => ∃ (vt' vo' : Value) (l' : List Int) (f' k' : Int) (T' : Stk), vt' = x ∧ vo' = y ∧ l'.length + 3 * T'.length ≤ l.length + 3 * T.length ∧ T'.length ≤ T.length ∧ Hid (Txt B wr vt' l') ∧ Hid (Opn B wr vo' ((f', k') :: T')) ∧ Hid (∀ e ∈ T', 0 < e.1 ∧ e.1 ≤ 1048576) ∧
      Hid (l' ++ (closeM f' k' T').1 = l ++ (closeM f k T).1) ∧ Hid ((closeM f' k' T').2 = (closeM f k T).2) ∧ Hid (Kept2 B w wr) ∧ Hid (B ≤ wr.heap.size)) (fun _ y _ => match y with | .slice _ n _ => n | _ => 0)
  case atStart => exact ⟨vt, vo, l, f, k, T, rfl, rfl, Nat.le_refl _, Nat.le_refl _, ht, ho, hf, rfl, rfl, Kept2.refl _ _, hB⟩
  case round =>
    clear ht ho hf
    obtain ⟨vt, vo, l', f', k', T', rfl, rfl, hlen, hT', HT, HO, HF, HL, HK, HE, HB⟩ := hrel
    obtain ⟨g, cap, rfl, hg, hn, hm⟩ := HO.out.form
    obtain ⟨c0, c1, z0⟩ := HO.out.top
    unfold maxLen at hm
    by_cases h0 : f' = 0
    · subst h0
      obtain ⟨v1, w1, r1, o1, k1⟩ := run_str HT.out (endS k') (endT k') (endS_cells k') (by have := endT_len k'; omega) (by omega) HB.out
      have R1 : Hid _ := r1
      have O1 : Hid (Txt B w1 v1 (l' ++ endT k')) := o1
      have K1 : Hid (Kept B wr w1) := k1
      have HO1 : Hid (Opn B w1 (.slice (some ⟨g, 0, none⟩) (T'.length + 1) cap) ((0, k') :: T')) := HO.out.kept k1
      clear r1 o1 k1
      cases T' with
      | nil =>
        simp only [List.length_nil, Nat.zero_mul, Nat.zero_add] at *
        have HL1 : Hid (l' ++ endT k' = l ++ (closeM f k T).1) := by have := HL.out; rw [closeM, if_pos rfl] at this; exact this
        have HK1 : Hid (([] : Stk) = (closeM f k T).2) := by have := HK.out; rw [closeM, if_pos rfl] at this; exact this
        have HP : Hid (Opn B w1 (.slice (some ⟨g, 0, none⟩) 0 cap) []) := HO1.out.pop
        clear HL HK HO HO1
        go_wp2_with (at_builtin; have _t := R1; refine wpList_append_run rfl (.tmp 20) (.tmp 27) 41 9 rfl rfl rfl R1.out ?_; clear R1)
        go_ret2
        exact ⟨_, _, rfl, HL1.out ▸ O1, HK1.out ▸ HP, HE.out.trans K1.out.two⟩
      | cons e T2 =>
        obtain ⟨g2, k2⟩ := e
        simp only [List.length_cons] at *
        have hg2 := HF.out (g2, k2) (by simp)
        simp only at hg2
        have HF2 : Hid (∀ e ∈ T2, 0 < e.1 ∧ e.1 ≤ 1048576) := fun e he => HF.out e (by simp [he])
        have HP : Hid (Opn B w1 (.slice (some ⟨g, 0, none⟩) (T2.length + 1) cap) ((g2, k2) :: T2)) := HO1.out.pop
        obtain ⟨d0, -, y0⟩ := HP.out.top
        have HS : Hid (Opn B (w1.setCell ⟨g, T2.length * 2, none⟩ (.int .i64 (g2 - 1))) (.slice (some ⟨g, 0, none⟩) (T2.length + 1) cap) ((g2 - 1, k2) :: T2)) := HP.out.set (g2 - 1)
        have HT1 : Hid (Txt B (w1.setCell ⟨g, T2.length * 2, none⟩ (.int .i64 (g2 - 1))) v1 (l' ++ endT k')) := Txt.kept2 (l := l' ++ endT k') O1.out HP.out rfl _ _
        have HE1 : Hid (Kept2 B w (w1.setCell ⟨g, T2.length * 2, none⟩ (.int .i64 (g2 - 1)))) := (HE.out.trans K1.out.two).trans (Kept2.set HP.out rfl _ _)
        have HL1 : Hid (l' ++ (endT k' ++ (if 0 < g2 - 1 then [44, 32] else []) ++ (closeM (g2 - 1) k2 T2).1) = l ++ (closeM f k T).1) := by have := HL.out; rw [closeM, if_pos rfl] at this; exact this
        have HK1 : Hid ((closeM (g2 - 1) k2 T2).2 = (closeM f k T).2) := by have := HK.out; rw [closeM, if_pos rfl] at this; exact this
        have HB1 : Hid (B ≤ (w1.setCell ⟨g, T2.length * 2, none⟩ (.int .i64 (g2 - 1))).heap.size) := by show _ ≤ _; rw [World.size_setCell]; exact Nat.le_trans HB.out K1.out.bel.size
        have hek := endT_len k'
        clear HL HK HO HO1 HP HF HT O1 HE
        by_cases h1 : 0 < g2 - 1
        · rw [if_pos h1] at HL1
          obtain ⟨v2, w2, r2, o2, k2'⟩ := run_str HT1.out ⟨#[44, 32]⟩ [44, 32] rfl (by simp) (by simp; omega) HB1.out
          have R2 : Hid _ := r2
          have O2 : Hid _ := o2
          have K2 : Hid (Kept B _ w2) := k2'
          have HS2 : Hid (Opn B w2 (.slice (some ⟨g, 0, none⟩) (T2.length + 1) cap) ((g2 - 1, k2) :: T2)) := HS.out.kept k2'
          clear r2 o2 k2' HT1 HS
          go_wp2_with (first | (at_builtin; have _t := R1; refine wpList_append_run rfl (.tmp 20) (.tmp 27) 41 9 rfl rfl rfl R1.out ?_; clear R1) | (at_builtin; have _t := R2; refine wpList_append_run rfl (.tmp 54) (.const (.string ⟨#[44, 32]⟩)) 41 9 rfl rfl rfl R2.out ?_; clear R2))
          go_roundw
          case rel => exact ⟨_, _, l' ++ endT k' ++ [44, 32], g2 - 1, k2, T2, rfl, rfl, by simp; omega, by omega, O2, HS2, HF2, by show _ = _; rw [← HL1.out]; simp, HK1, HE1.out.trans K2.out.two, Nat.le_trans HB1.out K2.out.bel.size⟩
          case measure => simp
        · rw [if_neg h1] at HL1
          go_wp2_with (at_builtin; have _t := R1; refine wpList_append_run rfl (.tmp 20) (.tmp 27) 41 9 rfl rfl rfl R1.out ?_; clear R1)
          go_roundw
          case rel => exact ⟨_, _, l' ++ endT k', g2 - 1, k2, T2, rfl, rfl, by simp; omega, by omega, HT1, HS, HF2, by show _ = _; rw [← HL1.out]; simp, HK1, HE1, HB1⟩
          case measure => simp
    · have e1 : closeM f' k' T' = ([], (f', k') :: T') := by cases T' <;> simp [closeM, h0]
      rw [e1] at HL HK
      rw [List.append_nil] at HL
      clear e1
      go_wp2
      go_ret2
      exact ⟨_, _, rfl, HL.out ▸ HT, HK.out ▸ HO, HE⟩
end Go.Proofs.YtlbgdgobhiokpaaDoor

/- Print. -/
namespace Go.Proofs.YtlbgdgobhiokpaaDoor
open Go.RowKit
set_option linter.unusedVariables false

theorem closeM_bd : ∀ (T : Stk) (f k : Int), 0 ≤ f → f ≤ 1048576 → (∀ e ∈ T, 0 < e.1 ∧ e.1 ≤ 1048576) → ∀ e ∈ (closeM f k T).2, 0 < e.1 ∧ e.1 ≤ 1048576
  | [], f, k, h0, h1, hT => by
    unfold closeM
    split
    · simp
    · intro e he; simp at he; subst he; simp; omega
  | (g, k2) :: T, f, k, h0, h1, hT => by
    have hg := hT (g, k2) (by simp)
    simp only at hg
    unfold closeM
    split
    · exact closeM_bd T (g - 1) k2 (by omega) (by omega) (fun e he => hT e (by simp [he]))
    · intro e he
      rcases List.mem_cons.1 he with rfl | he
      · simp; omega
      · exact hT e he
theorem Opn.push {B : Nat} {w : World} {v : Value} {K : Stk} (h : Opn B w v K) (c k : Int) (hK : K.length ≤ 1000000) (hB : B ≤ w.heap.size) :
    ∃ v' w', (Builtin.append_ #[84, 84] 84 #[v, .slice (some ⟨w.heap.size, 0, none⟩) 1 1]).run Tryd.prog (w.alloc (.cells #[.int .i64 c, .string (endS k)] 88)) = .ok v' w' ∧ Opn B w' v' ((c, k) :: K) ∧ Kept2 B w w' ∧ ∀ vt l, Txt B w vt l → Txt B w' vt l := by
  obtain ⟨g, cap, w', r1, o1, u1, l1⟩ := run_pushS (P := Tryd.prog) (t := 84) (e := 88) (z := .agg #[.int .i64 0, .string ByteArray.empty]) (bytes := 24) Tryd.underlying84 (by kernel_rfl) rfl (by decide) w 84 h [.int .i64 c, .string (endS k)] rfl (by intro u hu; simp at hu; rcases hu with rfl | rfl <;> rfl) (by unfold maxLen; omega) (by omega) hB
  refine ⟨_, w', r1, by unfold Opn; rw [opnC_cons]; exact o1, ⟨u1.below B hB (fun k hk => (h.lt k hk).1), fun q t xs _ h8 hb => hb.upd u1 fun hk => ?_⟩, fun vt l ht => ownS_upd ht u1 fun q hq hk => ?_⟩
  · obtain ⟨ys, hy⟩ := ownS_type h hk
    exact h8 (blk_type hb hy)
  · obtain ⟨ys, hy⟩ := ownS_type h hk
    obtain ⟨zs, hz⟩ := ownS_type ht hq
    exact absurd (blk_type hy hz) (by decide)
def printS (l : List Nd) : ByteArray := if (chk 1 0 l).1 = 0 then strOfNums (printM l []) else ByteArray.empty
set_option maxRecDepth 100000 in
set_option maxHeartbeats 8000000 in
theorem print_any (a : Option Addr) (len cap : Nat) (l : List Nd) (w : World) (hl : l.length = len) (hs : len ≤ 10000) (hr : Hid (NRow w a l)) (hn : Hid (∀ x ∈ l, 0 ≤ x.2.1)) (ht : Hid (Tab w.heap.size w)) :
    Calls Tryd.prog 11 #[.slice a len cap] w fun e w' => e = .returned (.tuple #[.string (printS l), .int .i64 (chk 1 0 l).1]) ∧ Below w.heap.size w w' := by
  go_enter Tryd.func11, Tryd.ntmps11
  go_wp2_with fail
  refine (check_any a len cap l w hl (by omega) hr).mono ?_; rintro e w1 ⟨rfl, hB1⟩
  rcases chk_err l 1 0 with h | h
  · obtain ⟨-, -, hright⟩ := chk_enough l 1 0 h
    have HR : Hid (∀ x ∈ l, right x = true) := hright
    have HE : Hid ((chk 1 0 l).1 = 0) := h
    have HS : Hid (printS l = strOfNums (printM l [])) := by show _ = _; rw [printS, if_pos h]
    unfold fltv
    rw [h]
    clear hright h
    obtain ⟨wA, hwA⟩ : ∃ wA, wA = w1.alloc (.cells #[.int .i64 0, .int .i64 (chk 1 0 l).2] 29) := ⟨_, rfl⟩
    have HBA : Hid (Below w.heap.size w wA) := by rw [hwA]; exact hB1.alloc hB1.size _
    go_upto_region 4 with fail
    rw [← hwA]
    clear hwA hB1
    go_wp2_with fail
    go_loopw [5, 6, 18] (fun x y i wr => ∃ (vt vo : Value) (L : List Int) (K : Stk) (k : Nat), vt = x ∧ vo = y ∧ i = .int .i64 k ∧ k ≤ len ∧ K.length ≤ k ∧ L.length + 3 * K.length ≤ 26 * k ∧ Hid (Txt w.heap.size wr vt L) ∧ Hid (Opn w.heap.size wr vo K) ∧ Hid (∀ e ∈ K, 0 < e.1 ∧ e.1 ≤ 1048576) ∧
        Hid (L ++ printM (l.drop k) K = printM l []) ∧ Hid (Below w.heap.size w wr)) (fun _ _ i _ => len - (intOf i).toNat)
    case atStart => exact ⟨_, _, [], [], 0, rfl, rfl, rfl, Nat.zero_le _, Nat.le_refl _, by simp, Txt.nil _ _, World.ownsRow_nil _ _ _ _, by intro e he; simp at he, rfl, HBA⟩
    case round =>
      clear HBA
      obtain ⟨vt, vo, L, K, k, rfl, rfl, rfl, hk, hKk, hLK, HT, HO, HF, HP, HB⟩ := hrel
      by_cases hlt : k < len
      · obtain ⟨b, off, rfl, hb, hc⟩ := hr.out.open (by omega)
        obtain ⟨c0, c1, c2⟩ := hc k (by omega)
        have hlt' : (k : Int) < len := by omega
        have d0 := (HB.out.cell (p := ⟨b, off + k * 3, none⟩) hb).trans c0
        have d1 := (HB.out.cell (p := ⟨b, off + k * 3 + 1, none⟩) hb).trans c1
        have d2 := (HB.out.cell (p := ⟨b, off + k * 3 + 2, none⟩) hb).trans c2
        have hmem : l.getD k nil0 ∈ l := by rw [List.getD, List.getElem?_eq_getElem (show k < l.length by omega)]; exact List.getElem_mem _
        have hrx := HR.out _ hmem
        have hnx := hn.out _ hmem
        have HP1 : Hid (L ++ printM (l.getD k nil0 :: l.drop (k + 1)) K = printM l []) := drop_at l k (by omega) ▸ HP.out
        clear hmem hc c0 c1 c2 HP
        generalize l.getD k nil0 = x at *
        obtain ⟨xk, xn, xc⟩ := x
        simp only at d0 d1 d2 hnx
        have hxc := right_kids hrx
        simp only at hxc
        have hbw : w.heap.size ≤ wr.heap.size := HB.out.size
        obtain ⟨wB, hwB⟩ : ∃ wB, wB = wr.alloc (.cells #[.int .i64 xk, .int .u64 xn, .int .i64 xc] 37) := ⟨_, rfl⟩
        have HBB : Hid (Below wr.heap.size wr wB) := by rw [hwB]; exact (Below.refl _ _).alloc (Nat.le_refl _) _
        have KB : Hid (Blk wB wr.heap.size 37 [.int .i64 xk, .int .u64 xn, .int .i64 xc]) := by rw [hwB]; exact Blk.newA wr _ 37
        have e0 : wB.cell? ⟨wr.heap.size, 0, none⟩ = some (.int .i64 xk) := KB.out.cell 0
        have e1 : wB.cell? ⟨wr.heap.size, 1, none⟩ = some (.int .u64 xn) := KB.out.cell 1
        have e2 : wB.cell? ⟨wr.heap.size, 2, none⟩ = some (.int .i64 xc) := KB.out.cell 2
        have HBw : Hid (Below w.heap.size w wB) := HB.out.trans (HBB.out.mono hbw)
        have hbs : w.heap.size ≤ wB.heap.size := HBw.out.size
        have HTB : Hid (Txt w.heap.size wB vt L) := HT.out.later HBB.out
        have HOB : Hid (Opn w.heap.size wB vo K) := HO.out.later HBB.out
        have HTab : Hid (Tab w.heap.size wB) := ht.out.below HBw.out
        clear HT HO HB HBB hb
        go_upto_region 9 with fail
        rw [← hwB]
        clear hwB d0 d1 d2
        go_wp2_with fail
        refine (begin_any w.heap.size (xk, xn, xc) vt L wB hrx hnx HTB (by omega) hbs HTab).mono ?_; rintro e w2 ⟨vt2, rfl, HT2, HK2⟩
        have KB2 := HK2.out.oth _ _ _ (by decide) KB.out
        have f0 : w2.cell? ⟨wr.heap.size, 0, none⟩ = some (.int .i64 xk) := KB2.cell 0
        have f2 : w2.cell? ⟨wr.heap.size, 2, none⟩ = some (.int .i64 xc) := KB2.cell 2
        have HO2 : Hid (Opn w.heap.size w2 vo K) := HOB.out.kept HK2.out
        have HBw2 : Hid (Below w.heap.size w w2) := HBw.out.trans HK2.out.bel
        obtain ⟨vo3, w3, r3, o3, k3, t3⟩ := Opn.push (w := w2.drew) HO2.out xc xk (by omega) HBw2.out.size
        have R3 : Hid _ := r3
        have HO3 : Hid (Opn w.heap.size w3 vo3 ((xc, xk) :: K)) := o3
        have HT3 : Hid (Txt w.heap.size w3 vt2 (L ++ beginT (xk, xn, xc))) := t3 _ _ HT2.out
        have HBw3 : Hid (Below w.heap.size w w3) := HBw2.out.drew.trans k3.bel
        have fa0 : ∀ o, (w2.alloc o).cell? ⟨wr.heap.size, 0, none⟩ = some (.int .i64 xk) := fun o => (KB2.alloc o).cell 0
        have fa2 : ∀ o, (w2.alloc o).cell? ⟨wr.heap.size, 2, none⟩ = some (.int .i64 xc) := fun o => (KB2.alloc o).cell 2
        have KB3 := k3.oth _ _ _ (by decide) (by decide) KB2.drew
        have g0 : w3.cell? ⟨wr.heap.size, 0, none⟩ = some (.int .i64 xk) := KB3.cell 0
        have g2 : w3.cell? ⟨wr.heap.size, 2, none⟩ = some (.int .i64 xc) := KB3.cell 2
        clear e0 e1 e2 KB KB2 KB3 HBw HTB HOB HTab HO2 r3 o3 k3 t3 HT2 HK2
        go_wp2_with fail
        go_region_held_law (fun w' => w'.cell? ⟨wr.heap.size, 0, none⟩ = some (.int .i64 xk) ∧ w'.cell? ⟨wr.heap.size, 2, none⟩ = some (.int .i64 xc)) (first | assumption | exact ⟨f0, f2⟩ | exact ⟨fa0 _, fa2 _⟩ | exact ⟨g0, g2⟩)
          (first
            | (go_at_call 35; refine (ending_any xk _).mono ?_; rintro e w' ⟨rfl, rfl⟩)
            | (refine step_append_run rfl (.tmp 25) (.tmp 32) 84 84 rfl rfl rfl R3.out ?_))
        clear fa0 fa2 f0 f2 g0 g2
        have HF2 : Hid (∀ e ∈ (closeM xc xk K).2, 0 < e.1 ∧ e.1 ≤ 1048576) := closeM_bd K xc xk hxc.1 hxc.2 HF.out
        have hbl := beginT_len (xk, xn, xc)
        have hcl := closeM_len K xc xk
        go_wp2_with fail
        refine (close_any w.heap.size xc xk K vt2 vo3 (L ++ beginT (xk, xn, xc)) w3 HT3 HO3 (by simp; omega) (by omega) HBw3.out.size HF.out).mono ?_; rintro e w4 ⟨vt4, vo4, rfl, HT4, HO4, HK4⟩
        obtain ⟨a4, c4, hv4, -, -, -, -, -⟩ := own_open HT4.out rfl
        subst hv4
        have HB4 : Hid (Below w.heap.size w w4) := HBw3.out.trans HK4.out.bel
        have HP4 : Hid (L ++ beginT (xk, xn, xc) ++ (closeM xc xk K).1 ++ printM (l.drop (k + 1)) (closeM xc xk K).2 = printM l []) := by have := HP1.out; rw [printM] at this; show _ = _; rw [← this]; simp
        have hll : (L ++ beginT (xk, xn, xc) ++ (closeM xc xk K).1).length + 3 * (closeM xc xk K).2.length ≤ 26 * (k + 1) := by simp only [List.length_append]; omega
        have hkl : (closeM xc xk K).2.length ≤ k + 1 := by omega
        have hlong : ¬ (1048576 : Int) < ((L ++ beginT (xk, xn, xc) ++ (closeM xc xk K).1).length : Int) := by omega
        clear HP1 HF HT3 HO3 hbl hcl
        generalize (L ++ beginT (xk, xn, xc) ++ (closeM xc xk K).1) = L4 at *
        generalize (closeM xc xk K).2 = K4 at *
        go_wp2
        go_roundw
        case rel => exact ⟨_, _, L4, K4, k + 1, rfl, rfl, by go_num, by omega, hkl, hll, HT4, HO4, HF2, HP4, HB4⟩
        case measure => simp [intOf]; omega
      · obtain rfl : k = len := by omega
        obtain ⟨a4, c4, hv4, hrow, -, -, -, -⟩ := own_open HT.out rfl
        subst hv4
        have HL : Hid (L = printM l []) := by have := HP.out; rw [List.drop_eq_nil_of_le (by omega), printM, List.append_nil] at this; exact this
        have hcv := conv_row E41 Tryd.underlying9 wr a4 L.length c4 L rfl hrow
        go_wp2
        go_ret2
        exact ⟨by rw [HS.out, HE.out, ← HL.out]; rfl, HB.out⟩
  · have HS : Hid (printS l = ByteArray.empty) := by show _ = _; rw [printS, if_neg (by omega)]
    unfold fltv
    rw [h]
    go_wp2_with fail
    go_region
    go_wp2
    go_ret2
    exact ⟨by first | (rw [HS.out, h]; rfl) | (rw [HS.out]; rfl), (hB1.alloc hB1.size _).drew⟩
end Go.Proofs.YtlbgdgobhiokpaaDoor

/- A reader in memory; take, number. -/
namespace Go.Proofs.YtlbgdgobhiokpaaDoor
open Go.RowKit
set_option linter.unusedVariables false

/-- A string's bytes. -/
def tx (s : ByteArray) : List Int := s.data.toList.map fun b => (b.toNat : Int)
theorem tx_len (s : ByteArray) : (tx s).length = s.size := by simp [tx]
theorem tx_at (s : ByteArray) (p : Nat) (h : p < s.size) : (tx s)[p]? = some ((s[p]'h).toNat : Int) := by
  have h2 : p < s.data.size := h
  simp [tx]
  exact ⟨s.data[p], by simp, rfl⟩
def cellsN (N : List Nd) : List Value := N.flatMap ndc
theorem cellsN_len (N : List Nd) : (cellsN N).length = N.length * 3 := by
  induction N with
  | nil => rfl
  | cons x N ih => rw [cellsN, List.flatMap_cons, List.length_append]; rw [cellsN] at ih; rw [ih]; simp [ndc]; omega
theorem cellsN_append (N M : List Nd) : cellsN (N ++ M) = cellsN N ++ cellsN M := by simp [cellsN]
theorem cellsN_at : ∀ (N : List Nd) (i : Nat), i < N.length → (cellsN N)[i * 3]? = some (.int .i64 (N.getD i nil0).1) ∧ (cellsN N)[i * 3 + 1]? = some (.int .u64 (N.getD i nil0).2.1) ∧ (cellsN N)[i * 3 + 2]? = some (.int .i64 (N.getD i nil0).2.2)
  | [], i, h => by simp at h
  | x :: N, 0, _ => ⟨rfl, rfl, rfl⟩
  | x :: N, i + 1, h => by
    have ih := cellsN_at N i (by simpa using h)
    have e : ∀ j, (cellsN (x :: N))[j + 3]? = (cellsN N)[j]? := fun j => by simp [cellsN, ndc]
    rw [show (i + 1) * 3 = i * 3 + 3 by omega, show i * 3 + 3 + 1 = (i * 3 + 1) + 3 by omega, show i * 3 + 3 + 2 = (i * 3 + 2) + 3 by omega, e, e, e]
    simpa using ih
theorem cellsN_set : ∀ (N : List Nd) (i : Nat) (c : Int), i < N.length → (cellsN N).set (i * 3 + 2) (.int .i64 c) = cellsN (N.set i ((N.getD i nil0).1, (N.getD i nil0).2.1, c))
  | [], i, c, h => by simp at h
  | x :: N, 0, c, _ => by simp [cellsN, ndc]
  | x :: N, i + 1, c, h => by
    have ih := cellsN_set N i c (by simpa using h)
    have e : cellsN (x :: N) = ndc x ++ cellsN N := by simp [cellsN]
    have e2 : ∀ y M, cellsN (y :: M) = ndc y ++ cellsN M := fun y M => by simp [cellsN]
    rw [List.set_cons_succ, e, e2, List.set_append_right _ _ (by simp [ndc]; omega)]
    congr 1
    rw [show (i + 1) * 3 + 2 - (ndc x).length = i * 3 + 2 by simp [ndc]; omega]
    simpa using ih
def oL (O : List Nat) : List Int := (O.map Int.ofNat).reverse
theorem oL_len (O : List Nat) : (oL O).length = O.length := by simp [oL]
theorem oL_cons (o : Nat) (O : List Nat) : oL (o :: O) = oL O ++ [(o : Int)] := by simp [oL]

structure Rdr (B : Nat) (w : World) (b : Nat) (s : ByteArray) (p : Nat) (vn vo : Value) (N : List Nd) (O : List Nat) (en : Bool) : Prop where
  blk : Blk w b 92 [.string s, .int .i64 p, vn, vo, .bool en]
  hb : B ≤ b
  nod : w.ownsRow B 37 3 vn N.length (cellsN N)
  opn : w.ownsRow B 3 1 vo O.length (cellsL .i64 (oL O))
/-- Below B nothing has turned, above it nothing but readers, nodes and numbers. -/
structure KeptR (B : Nat) (w w' : World) : Prop where
  bel : Below B w w'
  oth : ∀ g t xs, t ≠ 92 → t ≠ 37 → t ≠ 3 → Blk w g t xs → Blk w' g t xs
section
variable {B b : Nat} {w w' w1 : World} {s : ByteArray} {p : Nat} {vn vo v : Value} {N : List Nd} {O : List Nat} {en : Bool}
theorem KeptR.refl (B : Nat) (w : World) : KeptR B w w := ⟨Below.refl _ _, fun _ _ _ _ _ _ h => h⟩
theorem KeptR.trans (h : KeptR B w w1) (k : KeptR B w1 w') : KeptR B w w' := ⟨h.bel.trans k.bel, fun g t xs h1 h2 h3 hb => k.oth g t xs h1 h2 h3 (h.oth g t xs h1 h2 h3 hb)⟩
theorem KeptR.of_below (hB : B ≤ w.heap.size) (h : Below w.heap.size w w') : KeptR B w w' := ⟨h.mono hB, fun g t xs _ _ _ hb => hb.later h⟩
theorem KeptR.drew (h : KeptR B w w1) : KeptR B w w1.drew := ⟨h.bel.drew, h.oth⟩
theorem KeptR.drewN (h : KeptR B w w1) (n : Nat) : KeptR B w (w1.drewN n) := ⟨⟨h.bel.os, h.bel.tape, h.bel.output, h.bel.size, h.bel.block⟩, h.oth⟩
theorem Rdr.later (h : Rdr B w b s p vn vo N O en) (hB : Below w.heap.size w w') : Rdr B w' b s p vn vo N O en :=
  ⟨h.blk.later hB, h.hb, ownS_upd h.nod (Upd.of_below (S := fun _ => False) hB) (fun _ _ h => h), ownS_upd h.opn (Upd.of_below (S := fun _ => False) hB) (fun _ _ h => h)⟩
theorem Rdr.drewN (h : Rdr B w b s p vn vo N O en) (n : Nat) : Rdr B (w.drewN n) b s p vn vo N O en := ⟨h.blk, h.hb, h.nod, h.opn⟩
theorem Rdr.drew (h : Rdr B w b s p vn vo N O en) : Rdr B w.drew b s p vn vo N O en := ⟨h.blk, h.hb, h.nod, h.opn⟩
theorem Rdr.base (h : Rdr B w b s p vn vo N O en) : B ≤ w.heap.size := Nat.le_of_lt (Nat.lt_of_le_of_lt h.hb h.blk.lt)
theorem own_far {e t : TypeId} {c n g i : Nat} {xs ys : List Value} {u : Value} (h : w.ownsRow B e c v n xs) (hg : Blk w g t ys) (ht : t ≠ e) : (w.setCell ⟨g, i, none⟩ u).ownsRow B e c v n xs := by
  refine ownS_upd h ((Upd.refl (fun k => k = g) w).set _ _ (.inl rfl)) fun k hk e1 => ?_
  subst e1
  obtain ⟨zs, hz⟩ := ownS_type h hk
  exact ht (blk_type hg hz)
theorem kept_cell {t : TypeId} {g i : Nat} {ys : List Value} {u : Value} (hg : Blk w g t ys) (hB : B ≤ g) (ht : t = 92 ∨ t = 37 ∨ t = 3) : KeptR B w (w.setCell ⟨g, i, none⟩ u) := by
  refine ⟨(Below.refl _ _).setCell hB _, fun q t' xs h1 h2 h3 hb => hb.other _ _ fun e => ?_⟩
  have e2 : q = g := e
  subst e2
  have := blk_type hb hg
  rcases ht with rfl | rfl | rfl <;> simp_all
theorem Rdr.setp (h : Rdr B w b s p vn vo N O en) (p' : Nat) : Rdr B (w.setCell ⟨b, 1, none⟩ (.int .i64 p')) b s p' vn vo N O en :=
  ⟨h.blk.set 1 _, h.hb, own_far h.nod h.blk (by decide), own_far h.opn h.blk (by decide)⟩
theorem Rdr.seten (h : Rdr B w b s p vn vo N O en) (e' : Bool) : Rdr B (w.setCell ⟨b, 4, none⟩ (.bool e')) b s p vn vo N O e' :=
  ⟨h.blk.set 4 _, h.hb, own_far h.nod h.blk (by decide), own_far h.opn h.blk (by decide)⟩
theorem Rdr.keptb (h : Rdr B w b s p vn vo N O en) (i : Nat) (u : Value) : KeptR B w (w.setCell ⟨b, i, none⟩ u) := kept_cell h.blk h.hb (.inl rfl)
theorem Rdr.c0 (h : Rdr B w b s p vn vo N O en) : w.cell? ⟨b, 0, none⟩ = some (.string s) := h.blk.cell 0
theorem Rdr.c1 (h : Rdr B w b s p vn vo N O en) : w.cell? ⟨b, 1, none⟩ = some (.int .i64 p) := h.blk.cell 1
theorem Rdr.c2 (h : Rdr B w b s p vn vo N O en) : w.cell? ⟨b, 2, none⟩ = some vn := h.blk.cell 2
theorem Rdr.c3 (h : Rdr B w b s p vn vo N O en) : w.cell? ⟨b, 3, none⟩ = some vo := h.blk.cell 3
theorem Rdr.c4 (h : Rdr B w b s p vn vo N O en) : w.cell? ⟨b, 4, none⟩ = some (.bool en) := h.blk.cell 4
end

/-! ### Words -/
def takeW (t : List Int) : Nat → List Int → Nat × Bool
  | p, [] => (p, true)
  | p, c :: r => if t[p]? = some c then takeW t (p + 1) r else (p, false)
theorem takeW_le (t : List Int) : ∀ (r : List Int) (p : Nat), p ≤ t.length → p ≤ (takeW t p r).1 ∧ (takeW t p r).1 ≤ t.length
  | [], p, h => ⟨Nat.le_refl _, h⟩
  | c :: r, p, h => by
    unfold takeW
    split
    · rename_i hc
      have hp : p < t.length := by
        rcases Nat.lt_or_ge p t.length with h1 | h1
        · exact h1
        · rw [List.getElem?_eq_none h1] at hc; cases hc
      have := takeW_le t r (p + 1) hp
      omega
    · exact ⟨Nat.le_refl _, h⟩
set_option maxRecDepth 100000 in
set_option maxHeartbeats 8000000 in
theorem take_any (B b p : Nat) (s word : ByteArray) (vn vo : Value) (N : List Nd) (O : List Nat) (en : Bool) (w : World) (hR : Hid (Rdr B w b s p vn vo N O en)) (hp : p ≤ s.size) (hs : s.size ≤ 1048576) (hw : word.size ≤ 100) :
    Calls Tryd.prog 63 #[.pointer (some ⟨b, 0, none⟩), .string word] w fun e w' => e = .returned (.bool (takeW (tx s) p (tx word)).2) ∧ Hid (Rdr B w' b s (takeW (tx s) p (tx word)).1 vn vo N O en) ∧ Hid (KeptR B w w') := by
  go_enter Tryd.func63, Tryd.ntmps63
  go_wp2_with fail
  go_loopw [8] (fun i wr => ∃ (k q : Nat), k ≤ word.size ∧ i = .int .i64 k ∧ q ≤ s.size ∧ Hid (takeW (tx s) q ((tx word).drop k) = takeW (tx s) p (tx word)) ∧ Hid (Rdr B wr b s q vn vo N O en) ∧ Hid (KeptR B w wr)) (fun i _ => word.size - (intOf i).toNat)
  case atStart => exact ⟨0, p, Nat.zero_le _, rfl, hp, rfl, hR, KeptR.refl _ _⟩
  case round =>
    clear hR
    obtain ⟨k, q, hk, rfl, hq, HW, HR, HK⟩ := hrel
    have c0 := HR.out.c0; have c1 := HR.out.c1
    have z1 := HR.out.blk.frozen 1
    by_cases hlt : k < word.size
    · have hlt' : (k : Int) < word.size := by omega
      obtain ⟨y, hy⟩ : ∃ y : Int, (((word[k]'hlt).toNat : Nat) : Int) = y := ⟨_, rfl⟩
      have HW1 : Hid (takeW (tx s) q (y :: (tx word).drop (k + 1)) = takeW (tx s) p (tx word)) := by
        have h1 : (tx word).drop k = y :: (tx word).drop (k + 1) := by
          rw [List.drop_eq_getElem_cons (by rw [tx_len]; exact hlt)]
          congr 1
          have := tx_at word k hlt
          rw [List.getElem?_eq_getElem (by rw [tx_len]; exact hlt)] at this
          exact (Option.some.inj this).trans hy
        have := HW.out
        rw [h1] at this
        exact this
      clear HW
      by_cases hend : q = s.size
      · subst hend
        have HW2 : Hid ((s.size, false) = takeW (tx s) p (tx word)) := by
          have := HW1.out
          rw [takeW, if_neg (by rw [List.getElem?_eq_none (by rw [tx_len]; omega)]; simp)] at this
          exact this
        clear HW1
        go_wp2_with fail
        go_quiet (fail)
        go_wp2
        go_ret
        rw [← HW2.out]
        exact ⟨rfl, HR.out.drewN _, HK.out.drewN _⟩
      · have hqs : q < s.size := by omega
        have hqs' : (q : Int) < s.size := by omega
        obtain ⟨x, hx⟩ : ∃ x : Int, (((s[q]'hqs).toNat : Nat) : Int) = x := ⟨_, rfl⟩
        have htx : Hid ((tx s)[q]? = some x) := by show _ = _; rw [tx_at s q hqs, hx]
        have hbq : ((q : Int) == (s.size : Int)) = false := by simp; omega
        by_cases hxy : x = y
        · subst hxy
          have HW2 : Hid (takeW (tx s) (q + 1) ((tx word).drop (k + 1)) = takeW (tx s) p (tx word)) := by
            have := HW1.out
            rw [takeW, if_pos htx.out] at this
            exact this
          clear HW1
          go_wp2_with fail
          go_quiet (fail)
          go_wp2
          go_roundw
          case rel => exact ⟨k + 1, q + 1, by omega, by go_num, by omega, HW2, (HR.out.setp (q + 1)).drewN _, (HK.out.trans (HR.out.keptb 1 _)).drewN _⟩
          case measure => simp [intOf]; omega
        · have hbx : (x == y) = false := by simpa using hxy
          have HW2 : Hid ((q, false) = takeW (tx s) p (tx word)) := by
            have := HW1.out
            rw [takeW, if_neg (by rw [htx.out]; simpa using hxy)] at this
            exact this
          clear HW1
          go_wp2_with fail
          go_quiet (fail)
          go_wp2
          go_ret
          rw [← HW2.out]
          exact ⟨rfl, HR.out.drewN _, HK.out.drewN _⟩
    · obtain rfl : k = word.size := by omega
      have HW2 : Hid ((q, true) = takeW (tx s) p (tx word)) := by
        have := HW.out
        rw [List.drop_eq_nil_of_le (by rw [tx_len]; omega), takeW] at this
        exact this
      clear HW
      go_wp2
      go_ret
      rw [← HW2.out]
      exact ⟨rfl, HR.out, HK.out⟩
end Go.Proofs.YtlbgdgobhiokpaaDoor

/- number. -/
namespace Go.Proofs.YtlbgdgobhiokpaaDoor
open Go.RowKit
set_option linter.unusedVariables false

/-- Digits, as long as they are a number's that is at most this: the number, how many. -/
def numL (most : Int) : List Int → Bool → Int → Int × Nat
  | [], _, n => (n, 0)
  | c :: l, f, n => if 48 ≤ c ∧ c ≤ 57 then (if (f = false ∧ n = 0) ∨ (most - (c - 48)) / 10 < n then (n, 0) else ((numL most l false (n * 10 + (c - 48))).1, (numL most l false (n * 10 + (c - 48))).2 + 1)) else (n, 0)
theorem numL_le (most : Int) : ∀ (l : List Int) (f : Bool) (n : Int), (numL most l f n).2 ≤ l.length
  | [], _, _ => Nat.le_refl _
  | c :: l, f, n => by
    have := numL_le most l false (n * 10 + (c - 48))
    unfold numL
    split
    · split
      · simp
      · simp; exact this
    · simp
theorem tx_byte (s : ByteArray) (x : Int) (p : Nat) (h : (tx s)[p]? = some x) : 0 ≤ x ∧ x ≤ 255 := by
  obtain ⟨h1, h2⟩ := List.getElem?_eq_some_iff.1 h
  rw [← h2]
  simp only [tx, List.getElem_map]
  have := (s.data.toList[p]'(by simpa [tx] using h1)).toNat_lt
  omega
set_option maxRecDepth 100000 in
set_option maxHeartbeats 8000000 in
theorem number_any (B b p : Nat) (most : Int) (s : ByteArray) (vn vo : Value) (N : List Nd) (O : List Nat) (en : Bool) (w : World) (hR : Hid (Rdr B w b s p vn vo N O en)) (hp : p ≤ s.size) (hs : s.size ≤ 1048576) (hm0 : 255 ≤ most) (hm1 : most ≤ 18446744073709551615) :
    Calls Tryd.prog 74 #[.pointer (some ⟨b, 0, none⟩), .int .u64 most] w fun e w' => e = .returned (.tuple #[.int .u64 (numL most ((tx s).drop p) true 0).1, .bool (decide (0 < (numL most ((tx s).drop p) true 0).2))]) ∧ Hid (Rdr B w' b s (p + (numL most ((tx s).drop p) true 0).2) vn vo N O en) ∧ Hid (KeptR B w w') := by
  have c1 := hR.out.c1
  go_enter Tryd.func74, Tryd.ntmps74
  go_wp2_with fail
  go_loopw [7] (fun v wr => ∃ (q : Nat) (n : Int), q ≤ s.size ∧ p ≤ q ∧ v = .int .u64 n ∧ 0 ≤ n ∧ n ≤ most ∧ Hid (q + (numL most ((tx s).drop q) (decide (q = p)) n).2 = p + (numL most ((tx s).drop p) true 0).2) ∧ Hid ((numL most ((tx s).drop q) (decide (q = p)) n).1 = (numL most ((tx s).drop p) true 0).1) ∧
      Hid (Rdr B wr b s q vn vo N O en) ∧ Hid (KeptR B w wr)) (fun _ wr => match wr.cell? ⟨b, 1, none⟩ with | some (.int _ i) => s.size - i.toNat | _ => 0)
  case atStart => exact ⟨p, 0, hp, Nat.le_refl _, rfl, by omega, by omega, by simp [Hid], by simp [Hid], hR, KeptR.refl _ _⟩
  case round =>
    clear hR c1
    obtain ⟨q, n, hq, hpq, rfl, hn0, hn1, HQ, HN, HR, HK⟩ := hrel
    have c0 := HR.out.c0; have c1 := HR.out.c1
    have z1 := HR.out.blk.frozen 1
    have fin : ∀ (w2 : World), Rdr B w2 b s q vn vo N O en → KeptR B w w2 → (numL most ((tx s).drop q) (decide (q = p)) n) = (n, 0) → Hid ((n, decide (p < q)) = ((numL most ((tx s).drop p) true 0).1, decide (0 < (numL most ((tx s).drop p) true 0).2))) ∧ Hid (Rdr B w2 b s (p + (numL most ((tx s).drop p) true 0).2) vn vo N O en) ∧ Hid (KeptR B w w2) := by
      intro w2 hr hk h
      have h1 := HQ.out
      have h2 := HN.out
      rw [h] at h1 h2
      simp only at h1 h2
      refine ⟨?_, ?_, hk⟩
      · show _ = _
        rw [h2]
        congr 1
        simp only [decide_eq_decide]
        omega
      · rw [← h1]; exact hr
    have HFin : Hid _ := fin
    clear fin
    by_cases hend : q = s.size
    · have h1 := HFin.out
      rw [List.drop_eq_nil_of_le (by rw [tx_len]; omega)] at h1
      have H1 : Hid _ := h1
      clear h1 HFin HQ HN
      subst hend
      have hbq : ¬ ((s.size : Int) < (s.size : Int)) := by omega
      go_wp2_with fail
      go_quiet (fail)
      go_wp2_with fail
      go_quiet (fail)
      go_wp2
      go_ret2
      obtain ⟨h2, h3, h4⟩ := H1.out _ ((HR.out.drewN _).drewN _) ((HK.out.drewN _).drewN _) (by first | rfl | trivial)
      exact ⟨by have := h2.out; injection this with e1 e2; rw [← e1, ← e2]; first | rfl | (rw [decide_eq_true (by omega)]; rfl) | (rw [decide_eq_false (by omega)]; rfl), h3, h4⟩
    · have hqs : q < s.size := by omega
      have hqs' : (q : Int) < s.size := by omega
      obtain ⟨x, hx⟩ : ∃ x : Int, (((s[q]'hqs).toNat : Nat) : Int) = x := ⟨_, rfl⟩
      have htx : (tx s)[q]? = some x := by rw [tx_at s q hqs, hx]
      obtain ⟨hx0, hx1⟩ := tx_byte s x q htx
      have hdrop : (tx s).drop q = x :: (tx s).drop (q + 1) := by
        have h1 : q < (tx s).length := by rw [tx_len]; exact hqs
        rw [List.drop_eq_getElem_cons h1]
        rw [List.getElem?_eq_getElem h1] at htx
        rw [Option.some.inj htx]
      have h1 := HFin.out
      have h2 := HQ.out
      have h3 := HN.out
      rw [hdrop, numL] at h1 h2 h3
      clear HFin HQ HN hdrop htx
      by_cases h48 : 48 ≤ x
      · by_cases h57 : x ≤ 57
        · rw [if_pos ⟨h48, h57⟩] at h1 h2 h3
          obtain ⟨d, hd⟩ : ∃ d : Int, x - 48 = d := ⟨_, rfl⟩
          rw [hd] at h1 h2 h3
          have hd0 : 0 ≤ d ∧ d ≤ 9 := by omega
          have hwd : IntKind.u8.wrap (x - 48) = d := by rw [hd]; simp only [IntKind.wrap, IntKind.signed, IntKind.bits]; simp; clear h1 h2 h3; omega
          have H1 : Hid _ := h1
          have H2 : Hid _ := h2
          have H3 : Hid _ := h3
          clear h1 h2 h3
          go_wp2_with fail
          go_quiet (fail)
          go_wp2_with fail
          go_quiet (fail)
          by_cases hA : decide (q = p) = false ∧ n = 0
          · obtain ⟨hA1, rfl⟩ := hA
            have hA2 : q ≠ p := by simpa using hA1
            have hpq' : (p : Int) < q := by omega
            have h1 := H1.out
            rw [if_pos (.inl ⟨hA1, rfl⟩)] at h1
            have H4 : Hid _ := h1
            clear h1 H1 H2 H3
            go_wp2_with fail
            go_quiet (fail)
            go_wp2
            go_ret2
            obtain ⟨h2, h3, h4⟩ := H4.out _ ((HR.out.drewN _).drewN _) ((HK.out.drewN _).drewN _) (by first | rfl | trivial)
            exact ⟨by have := h2.out; injection this with e1 e2; rw [← e1, ← e2]; first | rfl | (rw [decide_eq_true (by omega)]; rfl) | (rw [decide_eq_false (by omega)]; rfl), h3, h4⟩
          · have hA' : (¬ (p : Int) < q) ∨ ((p : Int) < q ∧ (n == 0) = false) := by
              by_cases hqp : q = p
              · exact .inl (by omega)
              · refine .inr ⟨by omega, ?_⟩
                have : ¬ n = 0 := fun h => hA ⟨by simpa using hqp, h⟩
                simpa using this
            have hmd : 0 ≤ most - d := by omega
            by_cases hC : (most - d) / 10 < n
            · have h1 := H1.out
              rw [if_pos (.inr hC)] at h1
              have H4 : Hid _ := h1
              clear h1 H1 H2 H3 hA
              rcases hA' with hlt | ⟨hlt, hbn⟩
              · go_wp2_with fail
                go_quiet (fail)
                go_wp2
                go_ret2
                obtain ⟨h2, h3, h4⟩ := H4.out _ ((HR.out.drewN _).drewN _) ((HK.out.drewN _).drewN _) (by first | rfl | trivial)
                exact ⟨by have := h2.out; injection this with e1 e2; rw [← e1, ← e2]; first | rfl | (rw [decide_eq_true (by omega)]; rfl) | (rw [decide_eq_false (by omega)]; rfl), h3, h4⟩
              · go_wp2_with fail
                go_quiet (fail)
                go_wp2
                go_ret2
                obtain ⟨h2, h3, h4⟩ := H4.out _ ((HR.out.drewN _).drewN _) ((HK.out.drewN _).drewN _) (by first | rfl | trivial)
                exact ⟨by have := h2.out; injection this with e1 e2; rw [← e1, ← e2]; first | rfl | (rw [decide_eq_true (by omega)]; rfl) | (rw [decide_eq_false (by omega)]; rfl), h3, h4⟩
            · have h2 := H2.out
              have h3 := H3.out
              rw [if_neg (by simp only [not_or]; exact ⟨hA, hC⟩)] at h2 h3
              have H5 : Hid (q + 1 + (numL most ((tx s).drop (q + 1)) (decide (q + 1 = p)) (n * 10 + d)).2 = p + (numL most ((tx s).drop p) true 0).2) := by
                show _ = _
                rw [show decide (q + 1 = p) = false by simp; omega]
                simp only at h2
                omega
              have H6 : Hid ((numL most ((tx s).drop (q + 1)) (decide (q + 1 = p)) (n * 10 + d)).1 = (numL most ((tx s).drop p) true 0).1) := by
                show _ = _
                rw [show decide (q + 1 = p) = false by simp; omega]
                exact h3
              clear h2 h3 H1 H2 H3 hA
              have hn2 : n * 10 + d ≤ most := by omega
              have HM : Hid (∀ j, (((wr.drewN j).setCell ⟨b, 1, none⟩ (.int .i64 ((q : Int) + 1)))).cell? ⟨b, 1, none⟩ = some (.int .i64 ((q : Int) + 1))) := fun j => ((HR.out.drewN j).blk.set 1 _).cell 1
              rcases hA' with hlt | ⟨hlt, hbn⟩
              · go_wp2
                go_roundw
                case rel => exact ⟨q + 1, n * 10 + d, by omega, by omega, rfl, by omega, by omega, H5, H6, (HR.out.drewN _).setp (q + 1), (HK.out.drewN _).trans ((HR.out.drewN _).keptb 1 _)⟩
                case measure => rw [HM.out, c1]; simp; omega
              · go_wp2
                go_roundw
                case rel => exact ⟨q + 1, n * 10 + d, by omega, by omega, rfl, by omega, by omega, H5, H6, (HR.out.drewN _).setp (q + 1), (HK.out.drewN _).trans ((HR.out.drewN _).keptb 1 _)⟩
                case measure => rw [HM.out, c1]; simp; omega
        · rw [if_neg (by omega)] at h1
          have H1 : Hid _ := h1
          clear h1 h2 h3
          go_wp2_with fail
          go_quiet (fail)
          go_wp2_with fail
          go_quiet (fail)
          go_wp2
          go_ret2
          obtain ⟨h2, h3, h4⟩ := H1.out _ ((HR.out.drewN _).drewN _) ((HK.out.drewN _).drewN _) (by first | rfl | trivial)
          exact ⟨by have := h2.out; injection this with e1 e2; rw [← e1, ← e2]; first | rfl | (rw [decide_eq_true (by omega)]; rfl) | (rw [decide_eq_false (by omega)]; rfl), h3, h4⟩
      · rw [if_neg (by omega)] at h1
        have H1 : Hid _ := h1
        have hb48 : decide (48 ≤ x) = false := by simpa using h48
        clear h1 h2 h3
        go_wp2_with fail
        go_quiet (fail)
        go_wp2_with fail
        go_quiet (fail)
        go_wp2
        go_ret2
        obtain ⟨h2, h3, h4⟩ := H1.out _ ((HR.out.drewN _).drewN _) ((HK.out.drewN _).drewN _) (by first | rfl | trivial)
        exact ⟨by have := h2.out; injection this with e1 e2; rw [← e1, ← e2]; first | rfl | (rw [decide_eq_true (by omega)]; rfl) | (rw [decide_eq_false (by omega)]; rfl), h3, h4⟩
end Go.Proofs.YtlbgdgobhiokpaaDoor

/- mayGoOn, mayClose. -/
namespace Go.Proofs.YtlbgdgobhiokpaaDoor
open Go.RowKit
set_option linter.unusedVariables false

theorem i64w (n : Int) (h : -9223372036854775808 ≤ n ∧ n ≤ 9223372036854775807) : IntKind.i64.wrap n = n := by rw [IntKind.wrap_i64]; omega
theorem cell_alloc (w : World) (ob : Obj) (g i : Nat) (h : g < w.heap.size) : (w.alloc ob).cell? ⟨g, i, none⟩ = w.cell? ⟨g, i, none⟩ := ((Below.refl w.heap.size w).alloc (Nat.le_refl _) ob).cell h
section
variable {B b : Nat} {w w' w1 : World} {s : ByteArray} {p o : Nat} {vn vo v : Value} {N : List Nd} {O : List Nat} {en : Bool}
theorem Rdr.top (h : Rdr B w b s p vn vo N (o :: O) en) :
    ∃ go co, vo = .slice (some ⟨go, 0, none⟩) (O.length + 1) co ∧ B ≤ go ∧ O.length + 1 ≤ co ∧ co ≤ maxLen ∧ w.cell? ⟨go, O.length, none⟩ = some (.int .i64 (o : Int)) ∧ go < w.heap.size ∧ w.ownsRow B 3 1 (.slice (some ⟨go, 0, none⟩) O.length co) O.length (cellsL .i64 (oL O)) := by
  obtain ⟨g, cap, ys, e, hb, hn, hm, hl, ht, hK⟩ := ownS_blk h.opn (by simp)
  have hat : ys[O.length]? = (cellsL .i64 (oL (o :: O)))[O.length]? := by rw [← ht, List.getElem?_take, if_pos (by simp)]
  refine ⟨g, cap, by simpa using e, hb, by simpa using hn, hm, ?_, hK.lt, ?_⟩
  · rw [hK.cell, hat, cellsL_at _ _ _ (by rw [oL_len]; simp), oL_cons, List.getD, List.getElem?_append_right (by rw [oL_len]; omega), oL_len]
    simp
  · have h2 := ownS_of_blk (n := O.length) (c := 1) hK hb hl (by simp at hn; omega) hm
    have e2 : ys.take (O.length * 1) = cellsL .i64 (oL O) := by
      have h3 := congrArg (List.take O.length) ht
      rw [List.take_take, Nat.min_eq_left (by simp), oL_cons, cellsL_append, List.take_left' (by rw [cellsL_length, oL_len])] at h3
      rw [Nat.mul_one]
      exact h3
    rw [e2] at h2
    exact h2
theorem Rdr.node (h : Rdr B w b s p vn vo N O en) (ho : o < N.length) :
    ∃ gn cn, vn = .slice (some ⟨gn, 0, none⟩) N.length cn ∧ B ≤ gn ∧ N.length ≤ cn ∧ cn ≤ maxLen ∧ gn < w.heap.size ∧ w.cell? ⟨gn, o * 3, none⟩ = some (.int .i64 (N.getD o nil0).1) ∧ w.cell? ⟨gn, o * 3 + 1, none⟩ = some (.int .u64 (N.getD o nil0).2.1) ∧ w.cell? ⟨gn, o * 3 + 2, none⟩ = some (.int .i64 (N.getD o nil0).2.2) ∧
      w.frozen? ⟨gn, o * 3 + 2, none⟩ = false ∧ ∃ ys, Blk w gn 37 ys := by
  obtain ⟨g, cap, ys, e, hb, hn, hm, hl, ht, hK⟩ := ownS_blk h.nod (by omega)
  have hat : ∀ i, i < N.length * 3 → ys[i]? = (cellsN N)[i]? := fun i hi => by rw [← ht, List.getElem?_take, if_pos hi]
  obtain ⟨c0, c1, c2⟩ := cellsN_at N o ho
  exact ⟨g, cap, e, hb, hn, hm, hK.lt, by rw [hK.cell, hat _ (by omega), c0], by rw [hK.cell, hat _ (by omega), c1], by rw [hK.cell, hat _ (by omega), c2], hK.frozen _, ys, hK⟩
end
def mayGo (N : List Nd) : List Nat → Bool → Bool
  | [], _ => false
  | o :: _, en => en && decide ((N.getD o nil0).2.2 < mostK (N.getD o nil0).1)
set_option maxRecDepth 100000 in
set_option maxHeartbeats 8000000 in
theorem goOn_any (B b p : Nat) (s : ByteArray) (vn vo : Value) (N : List Nd) (O : List Nat) (en : Bool) (w : World) (hR : Hid (Rdr B w b s p vn vo N O en)) (hO : ∀ o ∈ O, o < N.length) (hN : N.length ≤ 2000000) (hOl : O.length ≤ 2000000) :
    Calls Tryd.prog 62 #[.pointer (some ⟨b, 0, none⟩)] w fun e w' => e = .returned (.bool (mayGo N O en)) ∧ Below w.heap.size w w' := by
  have c2 := hR.out.c2; have c3 := hR.out.c3; have c4 := hR.out.c4
  cases O with
  | nil =>
    have hv : ∃ a c, vo = .slice a 0 c := by
      rcases hR.out.opn.2 with ⟨e, _⟩ | ⟨g, cap, cur, e, _⟩
      · exact ⟨_, _, e⟩
      · exact ⟨_, _, e⟩
    obtain ⟨a, c, rfl⟩ := hv
    go_enter Tryd.func62, Tryd.ntmps62
    go_wp2
    go_ret
    exact ⟨rfl, Below.refl _ _⟩
  | cons o O =>
    obtain ⟨go, co, rfl, bo, ho1, ho2, k0, hgo, -⟩ := hR.out.top
    have hoN : o < N.length := hO o (by simp)
    obtain ⟨gn, cn, rfl, bn, hn1, hn2, hgn, n0, n1, n2, zn, -⟩ := hR.out.node hoN
    unfold maxLen at ho2 hn2
    have HG : Hid (mayGo N (o :: O) en = (en && decide ((N.getD o nil0).2.2 < mostK (N.getD o nil0).1))) := rfl
    generalize N.getD o nil0 = x at *
    obtain ⟨xk, xn, xc⟩ := x
    simp only at n0 n1 n2 HG
    clear hO
    go_enter Tryd.func62, Tryd.ntmps62
    cases en with
    | false =>
      go_wp2
      go_ret
      exact ⟨by rw [HG.out]; rfl, Below.refl _ _⟩
    | true =>
      go_wp2_with fail
      have hoN' : (o : Int) < N.length := by omega
      have hw1 : IntKind.i64.wrap (O.length : Int) = O.length := i64w _ (by omega)
      have hw2 : IntKind.i64.wrap ((O.length : Int) + 1 - 1) = O.length := by rw [i64w _ (by omega)]; omega
      have hw3 : (O.length : Int) < O.length + 1 := by omega
      have hbl := hR.out.blk.lt
      have HS : Hid (∀ ob, (w.alloc ob).cell? ⟨b, 2, none⟩ = some (.slice (some ⟨gn, 0, none⟩) N.length cn) ∧ (w.alloc ob).cell? ⟨b, 3, none⟩ = some (.slice (some ⟨go, 0, none⟩) (O.length + 1) co) ∧ (w.alloc ob).cell? ⟨go, O.length, none⟩ = some (.int .i64 (o : Int)) ∧ (w.alloc ob).cell? ⟨gn, o * 3, none⟩ = some (.int .i64 xk) ∧ (w.alloc ob).cell? ⟨gn, o * 3 + 1, none⟩ = some (.int .u64 xn) ∧ (w.alloc ob).cell? ⟨gn, o * 3 + 2, none⟩ = some (.int .i64 xc)) := fun ob => ⟨(cell_alloc w ob _ _ hbl).trans c2, (cell_alloc w ob _ _ hbl).trans c3, (cell_alloc w ob _ _ hgo).trans k0, (cell_alloc w ob _ _ hgn).trans n0, (cell_alloc w ob _ _ hgn).trans n1, (cell_alloc w ob _ _ hgn).trans n2⟩
      go_region_held_law (fun w' => w'.cell? ⟨b, 2, none⟩ = some (.slice (some ⟨gn, 0, none⟩) N.length cn) ∧ w'.cell? ⟨b, 3, none⟩ = some (.slice (some ⟨go, 0, none⟩) (O.length + 1) co) ∧ w'.cell? ⟨go, O.length, none⟩ = some (.int .i64 (o : Int)) ∧ w'.cell? ⟨gn, o * 3, none⟩ = some (.int .i64 xk) ∧ w'.cell? ⟨gn, o * 3 + 1, none⟩ = some (.int .u64 xn) ∧ w'.cell? ⟨gn, o * 3 + 2, none⟩ = some (.int .i64 xc)) (first | assumption | exact ⟨c2, c3, k0, n0, n1, n2⟩ | exact HS.out _) (fail)
      go_wp2_with fail
      refine (bounds_any xk _).mono ?_; rintro e w1 ⟨rfl, hB1⟩
      have K1 := (Blk.newA w #[.int .i64 xk, .int .u64 xn, .int .i64 xc] 37).drew.later hB1
      have e2 : ∀ ob, (w1.alloc ob).cell? ⟨w.heap.size, 2, none⟩ = some (.int .i64 xc) := fun ob => (K1.alloc ob).cell 2
      have hB : Below w.heap.size w w1 := (((Below.refl w.heap.size w).alloc (Nat.le_refl _) _).drew).trans (hB1.mono (by simp))
      clear HS c2 c3 c4 k0 n0 n1 n2 zn K1 hB1
      unfold bnd
      go_wp2
      go_ret
      exact ⟨by rw [HG.out]; rfl, hB.alloc hB.size _⟩
/-- Does this byte close the innermost open node here? -/
def mayC (N : List Nd) : List Nat → Bool → Int → Bool
  | [], _, _ => false
  | o :: _, en, c => (en || (decide ((N.getD o nil0).2.2 = 0) && decide (leastK (N.getD o nil0).1 = 0))) && decide (endT (N.getD o nil0).1 = [c])
theorem endS_is (k c : Int) (hc : c = 93 ∨ c = 125 ∨ c = 62) : ((endS k).toList == (Utf8.encode c).toList) = decide (endT k = [c]) := by
  rw [ByteArray.toList_eq, ByteArray.toList_eq]
  unfold endS endT
  rcases hc with rfl | rfl | rfl <;> (split; rfl; split; rfl; split; rfl; rfl)
set_option maxRecDepth 100000 in
set_option maxHeartbeats 8000000 in
theorem close1_any (B b p : Nat) (c : Int) (s : ByteArray) (vn vo : Value) (N : List Nd) (O : List Nat) (en : Bool) (w : World) (hR : Hid (Rdr B w b s p vn vo N O en)) (hO : ∀ o ∈ O, o < N.length) (hN : N.length ≤ 2000000) (hOl : O.length ≤ 2000000) (hc : c = 93 ∨ c = 125 ∨ c = 62) :
    Calls Tryd.prog 60 #[.pointer (some ⟨b, 0, none⟩), .int .u8 c] w fun e w' => e = .returned (.bool (mayC N O en c)) ∧ Below w.heap.size w w' := by
  have c2 := hR.out.c2; have c3 := hR.out.c3; have c4 := hR.out.c4
  cases O with
  | nil =>
    have hv : ∃ a c, vo = .slice a 0 c := by
      rcases hR.out.opn.2 with ⟨e, _⟩ | ⟨g, cap, cur, e, _⟩
      · exact ⟨_, _, e⟩
      · exact ⟨_, _, e⟩
    obtain ⟨a, c, rfl⟩ := hv
    go_enter Tryd.func60, Tryd.ntmps60
    go_wp2
    go_ret
    exact ⟨rfl, Below.refl _ _⟩
  | cons o O =>
    obtain ⟨go, co, rfl, bo, ho1, ho2, k0, hgo, -⟩ := hR.out.top
    have hoN : o < N.length := hO o (by simp)
    obtain ⟨gn, cn, rfl, bn, hn1, hn2, hgn, n0, n1, n2, zn, -⟩ := hR.out.node hoN
    unfold maxLen at ho2 hn2
    have HG : Hid (mayC N (o :: O) en c = ((en || (decide ((N.getD o nil0).2.2 = 0) && decide (leastK (N.getD o nil0).1 = 0))) && decide (endT (N.getD o nil0).1 = [c]))) := rfl
    generalize N.getD o nil0 = x at *
    obtain ⟨xk, xn, xc⟩ := x
    simp only at n0 n1 n2 HG
    clear hO
    go_enter Tryd.func60, Tryd.ntmps60
    go_wp2_with fail
    have hoN' : (o : Int) < N.length := by omega
    have hw1 : IntKind.i64.wrap (O.length : Int) = O.length := i64w _ (by omega)
    have hw2 : IntKind.i64.wrap ((O.length : Int) + 1 - 1) = O.length := by rw [i64w _ (by omega)]; omega
    have hw3 : (O.length : Int) < O.length + 1 := by omega
    have hbl := hR.out.blk.lt
    have HS : Hid (∀ ob, (w.alloc ob).cell? ⟨b, 2, none⟩ = some (.slice (some ⟨gn, 0, none⟩) N.length cn) ∧ (w.alloc ob).cell? ⟨b, 3, none⟩ = some (.slice (some ⟨go, 0, none⟩) (O.length + 1) co) ∧ (w.alloc ob).cell? ⟨go, O.length, none⟩ = some (.int .i64 (o : Int)) ∧ (w.alloc ob).cell? ⟨gn, o * 3, none⟩ = some (.int .i64 xk) ∧ (w.alloc ob).cell? ⟨gn, o * 3 + 1, none⟩ = some (.int .u64 xn) ∧ (w.alloc ob).cell? ⟨gn, o * 3 + 2, none⟩ = some (.int .i64 xc)) := fun ob => ⟨(cell_alloc w ob _ _ hbl).trans c2, (cell_alloc w ob _ _ hbl).trans c3, (cell_alloc w ob _ _ hgo).trans k0, (cell_alloc w ob _ _ hgn).trans n0, (cell_alloc w ob _ _ hgn).trans n1, (cell_alloc w ob _ _ hgn).trans n2⟩
    go_region_held_law (fun w' => w'.cell? ⟨b, 2, none⟩ = some (.slice (some ⟨gn, 0, none⟩) N.length cn) ∧ w'.cell? ⟨b, 3, none⟩ = some (.slice (some ⟨go, 0, none⟩) (O.length + 1) co) ∧ w'.cell? ⟨go, O.length, none⟩ = some (.int .i64 (o : Int)) ∧ w'.cell? ⟨gn, o * 3, none⟩ = some (.int .i64 xk) ∧ w'.cell? ⟨gn, o * 3 + 1, none⟩ = some (.int .u64 xn) ∧ w'.cell? ⟨gn, o * 3 + 2, none⟩ = some (.int .i64 xc)) (first | assumption | exact ⟨c2, c3, k0, n0, n1, n2⟩ | exact HS.out _) (fail)
    go_wp2_with fail
    refine (bounds_any xk _).mono ?_; rintro e w1 ⟨rfl, hB1⟩
    have hBw : Below w.heap.size w (w.alloc (.cells #[.int .i64 xk, .int .u64 xn, .int .i64 xc] 37)).drew := ((Below.refl w.heap.size w).alloc (Nat.le_refl _) _).drew
    have K1 := (Blk.newA w #[.int .i64 xk, .int .u64 xn, .int .i64 xc] 37).drew.later hB1
    have hB : Below w.heap.size w w1 := hBw.trans (hB1.mono (by simp))
    have e0 : ∀ ob, (w1.alloc ob).cell? ⟨w.heap.size, 0, none⟩ = some (.int .i64 xk) := fun ob => (K1.alloc ob).cell 0
    have e2 : ∀ ob, (w1.alloc ob).cell? ⟨w.heap.size, 2, none⟩ = some (.int .i64 xc) := fun ob => (K1.alloc ob).cell 2
    have e4 : ∀ ob, (w1.alloc ob).cell? ⟨b, 4, none⟩ = some (.bool en) := fun ob => ((hR.out.blk.later hB).alloc ob).cell 4
    clear HS c2 c3 c4 k0 n0 n1 n2 zn K1 hB1
    unfold bnd
    have hfin : ∀ (d : Bool), (en || (decide (xc = 0) && decide (leastK xk = 0))) = d → mayC N (o :: O) en c = (d && decide (endT xk = [c])) := fun d hd => by rw [HG.out, hd]
    have HF : Hid _ := hfin
    clear hfin
    have hB2 : ∀ ob, Below w.heap.size w (w1.alloc ob) := fun ob => hB.alloc hB.size _
    have H2 : Hid _ := hB2
    clear hB2 hBw
    have HES := endS_is xk c hc
    obtain ⟨es, hes⟩ : ∃ es, decide (endT xk = [c]) = es := ⟨_, rfl⟩
    rw [hes] at HES HF
    have hcb : 0 ≤ c ∧ c ≤ 255 := by omega
    clear hes hc
    cases en with
    | true =>
      have H5 : Hid (mayC N (o :: O) true c = es) := by have := HF.out true rfl; show _ = _; simpa using this
      clear HF
      go_wp2_with (go_at_call 35; refine (ending_any xk _).mono ?_; rintro e w' ⟨rfl, rfl⟩)
      go_ret
      exact ⟨by rw [H5.out, ← HES]; rfl, H2.out _⟩
    | false =>
      by_cases h1 : xc = 0
      · subst h1
        by_cases h2 : leastK xk = 0
        · have H5 : Hid (mayC N (o :: O) false c = es) := by have := HF.out true (by simp [h2]); show _ = _; simpa using this
          clear HF
          rw [h2]
          go_wp2_with (go_at_call 35; refine (ending_any xk _).mono ?_; rintro e w' ⟨rfl, rfl⟩)
          go_ret
          exact ⟨by rw [H5.out, ← HES]; rfl, by rw [h2] at *; exact H2.out _⟩
        · have H5 : Hid (mayC N (o :: O) false c = false) := by have := HF.out false (by simp [h2]); show _ = _; simpa using this
          have hb2 : (leastK xk == 0) = false := by simpa using h2
          clear HF
          go_wp2
          go_ret
          exact ⟨by rw [H5.out]; rfl, H2.out _⟩
      · have H5 : Hid (mayC N (o :: O) false c = false) := by have := HF.out false (by simp [h1]); show _ = _; simpa using this
        have hb2 : (xc == 0) = false := by simpa using h1
        clear HF
        go_wp2
        go_ret
        exact ⟨by rw [H5.out]; rfl, H2.out _⟩
end Go.Proofs.YtlbgdgobhiokpaaDoor
