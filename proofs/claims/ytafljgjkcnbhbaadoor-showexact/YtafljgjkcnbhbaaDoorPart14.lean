import Derived.Test.YtafljgjkcnbhbaaDoorPart13
import Derived.Test.YtafljgjkcnbhbaaDoorPart11

/- Check: a node. -/
namespace Go.Proofs.YtafljgjkcnbhbaaDoor
open Go.RowKit
set_option linter.unusedVariables false

def nodeE (k n : Int) (nm lb : ByteArray) (tg kd of : Int) (dp : Nat) : Int :=
  if 16 < dp then 61 else if (k = 8 ∨ k = 7) ∧ 64 < kd then 5
  else if kindOk k n kd = false ∨ nameOk nm (decide (k = 9)) = false ∨ nameOk lb (decide (of = 8)) = false then 62
  else if tg ≠ 0 ∧ (of ≠ 7 ∨ numB tg = false) then 62 else 0
set_option maxRecDepth 100000 in
set_option maxHeartbeats 4000000 in
theorem cnode_any (k n : Int) (nm lb : ByteArray) (tg kd at_ of : Int) (dp : Nat) (w : World) : Calls Tryd.prog 41 #[.agg #[.int .i64 k, .int .i64 n, .string nm, .string lb, .int .i64 tg, .int .i64 kd, .int .i64 at_], .int .i64 of, .int .i64 (dp : Int)] w fun e w' => e = .returned (.int .i64 (nodeE k n nm lb tg kd of dp)) ∧ Below w.heap.size w w' := by
  have HB : Hid (∀ o, Below w.heap.size w (w.alloc o)) := fun o => (Below.refl _ _).alloc (Nat.le_refl _) _
  obtain ⟨E, hE⟩ : ∃ E, nodeE k n nm lb tg kd of dp = E := ⟨_, rfl⟩
  have HE := hide_ hE
  rw [hE]
  clear hE
  by_cases hd : 16 < dp
  · have hd' : (16 : Int) < dp := by omega
    have HV : Hid (E = 61) := hide_ (by rw [← HE.out]; unfold nodeE; rw [if_pos hd])
    clear HE
    go_enter Tryd.func41, Tryd.ntmps41
    go_wp2
    go_ret
    exact ⟨by rw [HV.out]; rfl, HB.out _⟩
  have hd' : ¬ (16 : Int) < dp := by omega
  by_cases hm : (k = 8 ∨ k = 7) ∧ 64 < kd
  · have HV : Hid (E = 5) := hide_ (by rw [← HE.out]; unfold nodeE; rw [if_neg hd, if_pos hm])
    clear HE
    obtain ⟨hk, hkd⟩ := hm
    rcases hk with rfl | rfl <;> (
      go_enter Tryd.func41, Tryd.ntmps41
      go_wp2
      go_ret
      exact ⟨by rw [HV.out]; rfl, HB.out _⟩)
  have HKb := hide_ (Blk.newA w #[.int .i64 k, .int .i64 n, .string nm, .string lb, .int .i64 tg, .int .i64 kd, .int .i64 at_] 38)
  obtain ⟨b1, hb1⟩ : ∃ b, kindOk k n kd = b := ⟨_, rfl⟩
  obtain ⟨b2, hb2⟩ : ∃ b, nameOk nm (decide (k = 9)) = b := ⟨_, rfl⟩
  obtain ⟨b3, hb3⟩ : ∃ b, nameOk lb (decide (of = 8)) = b := ⟨_, rfl⟩
  obtain ⟨b4, hb4⟩ : ∃ b, numB tg = b := ⟨_, rfl⟩
  have hk4 : (k = 8 ∧ kd ≤ 64) ∨ (k = 7 ∧ kd ≤ 64) ∨ k = 9 ∨ (k ≠ 8 ∧ k ≠ 7 ∧ k ≠ 9 ∧ (k == 9) = false) := by
    by_cases e9 : k = 9
    · exact .inr (.inr (.inl e9))
    · have e9' : (k == 9) = false := by simpa using e9
      have : (k = 8 ∧ kd ≤ 64) ∨ (k = 7 ∧ kd ≤ 64) ∨ (k ≠ 8 ∧ k ≠ 7) := by omega
      rcases this with h | h | h
      · exact .inl h
      · exact .inr (.inl h)
      · exact .inr (.inr (.inr ⟨h.1, h.2, e9, e9'⟩))
  have HE1 : Hid (E = if b1 = false ∨ b2 = false ∨ b3 = false then 62 else if tg ≠ 0 ∧ (of ≠ 7 ∨ b4 = false) then 62 else 0) := hide_ (by rw [← HE.out]; unfold nodeE; rw [if_neg hd, if_neg hm, hb1, hb2, hb3, hb4])
  clear HE hm hd
  have HC : Hid (∀ w', Below (w.heap.size + 1) (w.alloc (.cells #[.int .i64 k, .int .i64 n, .string nm, .string lb, .int .i64 tg, .int .i64 kd, .int .i64 at_] 38)) w' → w'.cell? ⟨w.heap.size, 0, none⟩ = some (.int .i64 k) ∧ w'.cell? ⟨w.heap.size, 2, none⟩ = some (.string nm) ∧ w'.cell? ⟨w.heap.size, 3, none⟩ = some (.string lb) ∧ w'.cell? ⟨w.heap.size, 4, none⟩ = some (.int .i64 tg) ∧ Below w.heap.size w w') := fun w' hB => by
    have hB' : Below (w.alloc (.cells #[.int .i64 k, .int .i64 n, .string nm, .string lb, .int .i64 tg, .int .i64 kd, .int .i64 at_] 38)).heap.size (w.alloc (.cells #[.int .i64 k, .int .i64 n, .string nm, .string lb, .int .i64 tg, .int .i64 kd, .int .i64 at_] 38)) w' := by simpa using hB
    have h := HKb.out.later hB'
    exact ⟨h.cell 0, h.cell 2, h.cell 3, h.cell 4, below_to (HB.out _) hB'⟩
  cases b1 with
  | false =>
    have HV : Hid (E = 62) := hide_ (by rw [HE1.out]; simp)
    clear HE1 hb2 hb3 hb4
    rcases hk4 with ⟨rfl, h64⟩ | ⟨rfl, h64⟩ | rfl | ⟨h8, h7, h9, h9'⟩ <;> (
      go_enter Tryd.func41, Tryd.ntmps41
      go_wp2_with (go_at_call 58; refine (rkind_any _ _ _ _ _ _ _ _).mono ?_; rintro e w2 ⟨rfl, hB2⟩; (obtain ⟨-, -, -, -, hBz⟩ := HC.out w2 (by simpa using hB2)); rw [hb1])
      go_ret
      exact ⟨by rw [HV.out]; rfl, hBz⟩)
  | true =>
    cases b2 with
    | false =>
      have HV : Hid (E = 62) := hide_ (by rw [HE1.out]; simp)
      clear HE1 hb3 hb4
      rcases hk4 with ⟨rfl, h64⟩ | ⟨rfl, h64⟩ | rfl | ⟨h8, h7, h9, h9'⟩ <;> first | simp only [h9, decide_false] at hb2 | simp at hb2
      all_goals
        go_enter Tryd.func41, Tryd.ntmps41
        go_wp2_with (first | (go_at_call 58; refine (rkind_any _ _ _ _ _ _ _ _).mono ?_; rintro e w2 ⟨rfl, hB2⟩; (obtain ⟨c0, c2, c3, c4, hBz⟩ := HC.out w2 (by simpa using hB2)); rw [hb1]) | (go_at_call 59; refine (rname_any _ _ _).mono ?_; rintro e w3 ⟨rfl, rfl⟩; rw [hb2]))
        go_ret
        exact ⟨by rw [HV.out]; rfl, hBz⟩
    | true =>
      have hk5 : (k = 8 ∧ kd ≤ 64 ∧ nameOk nm false = true) ∨ (k = 7 ∧ kd ≤ 64 ∧ nameOk nm false = true) ∨ (k = 9 ∧ nameOk nm true = true) ∨ (k ≠ 8 ∧ k ≠ 7 ∧ k ≠ 9 ∧ (k == 9) = false ∧ nameOk nm false = true) := by
        rcases hk4 with ⟨rfl, h⟩ | ⟨rfl, h⟩ | rfl | ⟨h8, h7, h9, h9'⟩
        · exact .inl ⟨rfl, h, hb2⟩
        · exact .inr (.inl ⟨rfl, h, hb2⟩)
        · exact .inr (.inr (.inl ⟨rfl, hb2⟩))
        · simp only [h9, decide_false] at hb2
          exact .inr (.inr (.inr ⟨h8, h7, h9, h9', hb2⟩))
      clear hk4 hb2
      cases b3 with
      | false =>
        have HV : Hid (E = 62) := hide_ (by rw [HE1.out]; simp)
        clear HE1 hb4
        have ho : (of = 8 ∧ nameOk lb true = false) ∨ (of ≠ 8 ∧ (of == 8) = false ∧ nameOk lb false = false) := by
          by_cases h : of = 8
          · subst h; exact .inl ⟨rfl, hb3⟩
          · simp only [h, decide_false] at hb3
            exact .inr ⟨h, by simpa using h, hb3⟩
        clear hb3
        rcases ho with ⟨rfl, hb3⟩ | ⟨ho, ho', hb3⟩ <;> rcases hk5 with ⟨rfl, h64, hb2⟩ | ⟨rfl, h64, hb2⟩ | ⟨rfl, hb2⟩ | ⟨h8, h7, h9, h9', hb2⟩
        all_goals
          go_enter Tryd.func41, Tryd.ntmps41
          go_wp2_with (first | (go_at_call 58; refine (rkind_any _ _ _ _ _ _ _ _).mono ?_; rintro e w2 ⟨rfl, hB2⟩; (obtain ⟨c0, c2, c3, c4, hBz⟩ := HC.out w2 (by simpa using hB2)); rw [hb1]) | (go_at_call_of 59 (Value.string nm); refine (rname_any nm _ _).mono ?_; rintro e w3 ⟨rfl, rfl⟩; rw [hb2]) | (go_at_call 59; refine (rname_any lb _ _).mono ?_; rintro e w3 ⟨rfl, rfl⟩; rw [hb3]) | (go_at_call 60; refine (isnum_any _ _).mono ?_; rintro e w3 ⟨rfl, rfl⟩; rw [hb4]))
          go_ret
          exact ⟨by rw [HV.out]; rfl, hBz⟩
      | true =>
        have ho : (of = 8 ∧ nameOk lb true = true) ∨ (of = 7 ∧ (of == 8) = false ∧ nameOk lb false = true) ∨ (of ≠ 8 ∧ of ≠ 7 ∧ (of == 8) = false ∧ nameOk lb false = true) := by
          by_cases h : of = 8
          · subst h; exact .inl ⟨rfl, hb3⟩
          · simp only [h, decide_false] at hb3
            by_cases h7 : of = 7
            · exact .inr (.inl ⟨h7, by simpa using h, hb3⟩)
            · exact .inr (.inr ⟨h, h7, by simpa using h, hb3⟩)
        clear hb3
        by_cases ht : tg = 0
        · have HV : Hid (E = 0) := hide_ (by rw [HE1.out, ht]; simp)
          clear HE1
          subst ht
          rcases ho with ⟨rfl, hb3⟩ | ⟨rfl, ho', hb3⟩ | ⟨ho, ho7, ho', hb3⟩ <;> rcases hk5 with ⟨rfl, h64, hb2⟩ | ⟨rfl, h64, hb2⟩ | ⟨rfl, hb2⟩ | ⟨h8, h7, h9, h9', hb2⟩
          all_goals
            go_enter Tryd.func41, Tryd.ntmps41
            go_wp2_with (first | (go_at_call 58; refine (rkind_any _ _ _ _ _ _ _ _).mono ?_; rintro e w2 ⟨rfl, hB2⟩; (obtain ⟨c0, c2, c3, c4, hBz⟩ := HC.out w2 (by simpa using hB2)); rw [hb1]) | (go_at_call_of 59 (Value.string nm); refine (rname_any nm _ _).mono ?_; rintro e w3 ⟨rfl, rfl⟩; rw [hb2]) | (go_at_call 59; refine (rname_any lb _ _).mono ?_; rintro e w3 ⟨rfl, rfl⟩; rw [hb3]) | (go_at_call 60; refine (isnum_any _ _).mono ?_; rintro e w3 ⟨rfl, rfl⟩; rw [hb4]))
            go_ret
            exact ⟨by rw [HV.out]; rfl, hBz⟩
        · rcases ho with ⟨rfl, hb3⟩ | ⟨rfl, ho', hb3⟩ | ⟨ho, ho7, ho', hb3⟩
          · have HV : Hid (E = 62) := hide_ (by rw [HE1.out]; simp [ht])
            clear HE1
            rcases hk5 with ⟨rfl, h64, hb2⟩ | ⟨rfl, h64, hb2⟩ | ⟨rfl, hb2⟩ | ⟨h8, h7, h9, h9', hb2⟩
            all_goals
              go_enter Tryd.func41, Tryd.ntmps41
              go_wp2_with (first | (go_at_call 58; refine (rkind_any _ _ _ _ _ _ _ _).mono ?_; rintro e w2 ⟨rfl, hB2⟩; (obtain ⟨c0, c2, c3, c4, hBz⟩ := HC.out w2 (by simpa using hB2)); rw [hb1]) | (go_at_call_of 59 (Value.string nm); refine (rname_any nm _ _).mono ?_; rintro e w3 ⟨rfl, rfl⟩; rw [hb2]) | (go_at_call 59; refine (rname_any lb _ _).mono ?_; rintro e w3 ⟨rfl, rfl⟩; rw [hb3]) | (go_at_call 60; refine (isnum_any _ _).mono ?_; rintro e w3 ⟨rfl, rfl⟩; rw [hb4]))
              go_ret
              exact ⟨by rw [HV.out]; rfl, hBz⟩
          · cases b4 with
            | false =>
              have HV : Hid (E = 62) := hide_ (by rw [HE1.out]; simp [ht])
              clear HE1
              rcases hk5 with ⟨rfl, h64, hb2⟩ | ⟨rfl, h64, hb2⟩ | ⟨rfl, hb2⟩ | ⟨h8, h7, h9, h9', hb2⟩
              all_goals
                go_enter Tryd.func41, Tryd.ntmps41
                go_wp2_with (first | (go_at_call 58; refine (rkind_any _ _ _ _ _ _ _ _).mono ?_; rintro e w2 ⟨rfl, hB2⟩; (obtain ⟨c0, c2, c3, c4, hBz⟩ := HC.out w2 (by simpa using hB2)); rw [hb1]) | (go_at_call_of 59 (Value.string nm); refine (rname_any nm _ _).mono ?_; rintro e w3 ⟨rfl, rfl⟩; rw [hb2]) | (go_at_call 59; refine (rname_any lb _ _).mono ?_; rintro e w3 ⟨rfl, rfl⟩; rw [hb3]) | (go_at_call 60; refine (isnum_any _ _).mono ?_; rintro e w3 ⟨rfl, rfl⟩; rw [hb4]))
                go_ret
                exact ⟨by rw [HV.out]; rfl, hBz⟩
            | true =>
              have HV : Hid (E = 0) := hide_ (by rw [HE1.out]; simp)
              clear HE1
              rcases hk5 with ⟨rfl, h64, hb2⟩ | ⟨rfl, h64, hb2⟩ | ⟨rfl, hb2⟩ | ⟨h8, h7, h9, h9', hb2⟩
              all_goals
                go_enter Tryd.func41, Tryd.ntmps41
                go_wp2_with (first | (go_at_call 58; refine (rkind_any _ _ _ _ _ _ _ _).mono ?_; rintro e w2 ⟨rfl, hB2⟩; (obtain ⟨c0, c2, c3, c4, hBz⟩ := HC.out w2 (by simpa using hB2)); rw [hb1]) | (go_at_call_of 59 (Value.string nm); refine (rname_any nm _ _).mono ?_; rintro e w3 ⟨rfl, rfl⟩; rw [hb2]) | (go_at_call 59; refine (rname_any lb _ _).mono ?_; rintro e w3 ⟨rfl, rfl⟩; rw [hb3]) | (go_at_call 60; refine (isnum_any _ _).mono ?_; rintro e w3 ⟨rfl, rfl⟩; rw [hb4]))
                go_ret
                exact ⟨by rw [HV.out]; rfl, hBz⟩
          · have HV : Hid (E = 62) := hide_ (by rw [HE1.out]; simp [ht, ho7])
            clear HE1
            rcases hk5 with ⟨rfl, h64, hb2⟩ | ⟨rfl, h64, hb2⟩ | ⟨rfl, hb2⟩ | ⟨h8, h7, h9, h9', hb2⟩
            all_goals
              go_enter Tryd.func41, Tryd.ntmps41
              go_wp2_with (first | (go_at_call 58; refine (rkind_any _ _ _ _ _ _ _ _).mono ?_; rintro e w2 ⟨rfl, hB2⟩; (obtain ⟨c0, c2, c3, c4, hBz⟩ := HC.out w2 (by simpa using hB2)); rw [hb1]) | (go_at_call_of 59 (Value.string nm); refine (rname_any nm _ _).mono ?_; rintro e w3 ⟨rfl, rfl⟩; rw [hb2]) | (go_at_call 59; refine (rname_any lb _ _).mono ?_; rintro e w3 ⟨rfl, rfl⟩; rw [hb3]) | (go_at_call 60; refine (isnum_any _ _).mono ?_; rintro e w3 ⟨rfl, rfl⟩; rw [hb4]))
              go_ret
              exact ⟨by rw [HV.out]; rfl, hBz⟩
end Go.Proofs.YtafljgjkcnbhbaaDoor

/- Check: the parents' stack. -/
namespace Go.Proofs.YtafljgjkcnbhbaaDoor
open Go.RowKit
set_option linter.unusedVariables false

/-- The parents: kind and kids to come, the innermost last. -/
def prc (p : Int × Int) : List Value := [.int .i64 p.1, .int .i64 p.2]
def cellsP (L : List (Int × Int)) : List Value := L.flatMap prc
theorem cellsP_len (L : List (Int × Int)) : (cellsP L).length = L.length * 2 := by
  induction L with
  | nil => rfl
  | cons a L ih => simp [cellsP, prc] at ih ⊢; omega
theorem cellsP_app (L M : List (Int × Int)) : cellsP (L ++ M) = cellsP L ++ cellsP M := by simp [cellsP]
/-- Without those at the end that have none to come. -/
def woR : List (Int × Int) → List (Int × Int)
  | [] => []
  | p :: L => if p.2 = 0 then woR L else p :: L
def wo (L : List (Int × Int)) : List (Int × Int) := (woR L.reverse).reverse
theorem wo_nil : wo [] = [] := rfl
theorem wo_zero (L : List (Int × Int)) (p : Int × Int) (h : p.2 = 0) : wo (L ++ [p]) = wo L := by
  unfold wo
  rw [List.reverse_append]
  simp [woR, h]
theorem wo_more (L : List (Int × Int)) (p : Int × Int) (h : p.2 ≠ 0) : wo (L ++ [p]) = L ++ [p] := by
  unfold wo
  rw [List.reverse_append]
  simp [woR, h]
theorem snoc_of (L : List (Int × Int)) (n : Nat) (h : L.length = n + 1) : ∃ M p, L = M ++ [p] ∧ M.length = n := by
  rcases List.eq_nil_or_concat L with rfl | ⟨M, p, rfl⟩
  · simp at h
  · exact ⟨M, p, by simp, by simp at h; omega⟩
/-- The stack in a block of its own: what lies above it is whatever it was. -/
def Stk (w : World) (g cap : Nat) (L : List (Int × Int)) (ys : List Value) : Prop := Blk w g 81 ys ∧ ys.length = cap * 2 ∧ L.length ≤ cap ∧ cap ≤ maxLen ∧ ys.take (L.length * 2) = cellsP L
theorem Stk.own {w : World} {B g cap : Nat} {L : List (Int × Int)} {ys : List Value} (h : Stk w g cap L ys) (hb : B ≤ g) : w.ownsRow B 81 2 (.slice (some ⟨g, 0, none⟩) L.length cap) L.length (cellsP L) := by
  have k := ownS_of_blk (n := L.length) (B := B) h.1 hb h.2.1 h.2.2.1 h.2.2.2.1
  rw [h.2.2.2.2] at k
  exact k
theorem Stk.of_own {w : World} {B g cap : Nat} {L : List (Int × Int)} (h : w.ownsRow B 81 2 (.slice (some ⟨g, 0, none⟩) L.length cap) L.length (cellsP L)) (h0 : 0 < L.length) : B ≤ g ∧ ∃ ys, Stk w g cap L ys := by
  obtain ⟨g', cap', ys, hv, hb, hn, hm, hl, ht, hK⟩ := ownS_blk h h0
  injection hv with e1 e2 e3
  injection e1 with e1
  injection e1 with e1
  subst e1 e3
  exact ⟨hb, ys, hK, hl, hn, hm, ht⟩
theorem Stk.cut {w : World} {g cap : Nat} {L : List (Int × Int)} {p : Int × Int} {ys : List Value} (h : Stk w g cap (L ++ [p]) ys) : Stk w g cap L ys := by
  obtain ⟨h1, h2, h3, h4, h5⟩ := h
  refine ⟨h1, h2, by simp at h3; omega, h4, ?_⟩
  have := congrArg (List.take (L.length * 2)) h5
  rw [List.take_take, cellsP_app, List.take_append_of_le_length (by rw [cellsP_len]; exact Nat.le_refl _), List.take_of_length_le (l := cellsP L) (by rw [cellsP_len]; exact Nat.le_refl _)] at this
  rw [← this]
  congr 1
  simp
theorem Stk.top {w : World} {g cap : Nat} {L : List (Int × Int)} {p : Int × Int} {ys : List Value} (h : Stk w g cap (L ++ [p]) ys) : w.cell? ⟨g, L.length * 2, none⟩ = some (.int .i64 p.1) ∧ w.cell? ⟨g, L.length * 2 + 1, none⟩ = some (.int .i64 p.2) := by
  obtain ⟨h1, h2, h3, h4, h5⟩ := h
  have e : ∀ j, j < 2 → ys[L.length * 2 + j]? = (prc p)[j]? := fun j hj => by
    have : ys[L.length * 2 + j]? = (ys.take ((L ++ [p]).length * 2))[L.length * 2 + j]? := by rw [List.getElem?_take, if_pos (by simp; omega)]
    rw [this, h5, cellsP_app, List.getElem?_append_right (by rw [cellsP_len]; omega), cellsP_len]
    have e : L.length * 2 + j - L.length * 2 = j := by omega
    rw [e]
    simp [cellsP]
  have h0 := e 0 (by decide)
  have h1' := e 1 (by decide)
  simp [prc] at h0 h1'
  exact ⟨by rw [h1.cell]; exact h0, by rw [h1.cell]; exact h1'⟩
theorem Stk.later {w w' : World} {g cap : Nat} {L : List (Int × Int)} {ys : List Value} (h : Stk w g cap L ys) (hB : Below w.heap.size w w') : Stk w' g cap L ys := ⟨h.1.later hB, h.2⟩
set_option maxRecDepth 100000 in
set_option maxHeartbeats 4000000 in
theorem without_any (g cap : Nat) (L : List (Int × Int)) (ys : List Value) (w : World) (hS : Hid (Stk w g cap L ys)) :
    Calls Tryd.prog 42 #[.slice (some ⟨g, 0, none⟩) L.length cap] w fun e w' => e = .returned (.slice (some ⟨g, 0, none⟩) (wo L).length cap) ∧ Hid (Stk w g cap (wo L) ys) ∧ w = w' := by
  have hcap : cap ≤ 9223372036854775807 := by have := hS.out.2.2.2.1; unfold maxLen at this; omega
  go_enter Tryd.func42, Tryd.ntmps42
  go_wp2_with fail
  go_loopw [0] (fun x wr => ∃ M : List (Int × Int), x = .slice (some ⟨g, 0, none⟩) M.length cap ∧ Hid (Stk w g cap M ys) ∧ Hid (wo M = wo L) ∧ w = wr) (fun x _ => match x with | .slice _ n _ => n | _ => 0)
  case atStart => exact ⟨L, rfl, hS, rfl, rfl⟩
  case round =>
    obtain ⟨M, rfl, HS, HW, rfl⟩ := hrel
    have hMc : M.length ≤ cap := HS.out.2.2.1
    rcases List.eq_nil_or_concat M with rfl | ⟨N, p, hM⟩
    · have HW' : Hid (wo L = []) := hide_ (by rw [← HW.out]; rfl)
      have HS' : Hid (Stk w g cap (wo L) ys) := by rw [HW'.out]; exact HS
      have HL : Hid ((wo L).length = 0) := hide_ (by rw [HW'.out]; rfl)
      simp only [List.length_nil]
      go_wp2
      go_ret
      exact ⟨by rw [HL.out]; rfl, HS', rfl⟩
    · rw [List.concat_eq_append] at hM
      subst hM
      obtain ⟨t1, t2⟩ := HS.out.top
      have hlen : (N ++ [p]).length = N.length + 1 := by simp
      rw [hlen] at hMc ⊢
      clear hlen
      have ha : (0 : Int) < (N.length : Int) + 1 := by omega
      by_cases hp : p.2 = 0
      · have HS2 := hide_ (HS.out.cut)
        have HW2 : Hid (wo N = wo L) := hide_ (by rw [← HW.out, wo_zero _ _ hp])
        rw [hp] at t2
        go_wp2
        go_roundw
        case rel => exact ⟨N, rfl, HS2, HW2, trivial⟩
        case measure => simp
      · have hp' : (p.2 == 0) = false := by simpa using hp
        have HW' : Hid (wo L = N ++ [p]) := hide_ (by rw [← HW.out, wo_more _ _ hp])
        have HS' : Hid (Stk w g cap (wo L) ys) := by rw [HW'.out]; exact HS
        have HL : Hid ((wo L).length = N.length + 1) := hide_ (by rw [HW'.out]; simp)
        go_wp2
        go_ret
        exact ⟨by rw [HL.out]; rfl, HS', rfl⟩
end Go.Proofs.YtafljgjkcnbhbaaDoor

/- Check: a type expression. -/
namespace Go.Proofs.YtafljgjkcnbhbaaDoor
open Go.RowKit
set_option linter.unusedVariables false

def ndE (x : Nd) (of : Int) (dp : Nat) : Int := nodeE x.k x.n x.name x.label x.tag x.kids of dp
/-- The first node at fault: node and error; the stack's innermost last. -/
def ctS (L : List (Int × Int)) (x : Nd) : List (Int × Int) :=
  match L.getLast? with
  | none => []
  | some p => wo (L.dropLast ++ [(p.1, p.2 - 1), (x.k, x.kids)])
def ctE (L : List (Int × Int)) (x : Nd) : Int :=
  match L.getLast? with
  | none => 62
  | some p => ndE x p.1 (L.length - 1)
def ct : List Nd → Nat → List (Int × Int) → Int × Int
  | [], i, L => if L = [] then (0, 0) else ((i : Int), 62)
  | x :: xs, i, L => if ctE L x = 0 then ct xs (i + 1) (ctS L x) else ((i : Int), ctE L x)
theorem ndE_kids {x : Nd} {of : Int} {dp : Nat} (h : ndE x of dp = 0) : dp ≤ 16 ∧ 0 ≤ x.kids ∧ x.kids ≤ 64 := by
  unfold ndE nodeE at h
  by_cases h1 : 16 < dp
  · rw [if_pos h1] at h; omega
  rw [if_neg h1] at h
  by_cases h2 : (x.k = 8 ∨ x.k = 7) ∧ 64 < x.kids
  · rw [if_pos h2] at h; omega
  rw [if_neg h2] at h
  cases h3 : kindOk x.k x.n x.kids with
  | false => rw [if_pos (.inl h3)] at h; omega
  | true =>
    refine ⟨by omega, ?_⟩
    unfold kindOk at h3
    by_cases e1 : x.k = 1
    · rw [if_pos e1] at h3; have := of_decide_eq_true h3; omega
    rw [if_neg e1] at h3
    by_cases e2 : x.k = 2 ∨ x.k = 3 ∨ x.k = 9
    · rw [if_pos e2] at h3; have := of_decide_eq_true h3; omega
    rw [if_neg e2] at h3
    by_cases e3 : x.k = 4 ∨ x.k = 5
    · rw [if_pos e3] at h3
      rw [Bool.and_eq_true] at h3
      have := of_decide_eq_true h3.2; omega
    rw [if_neg e3] at h3
    by_cases e4 : x.k = 6
    · rw [if_pos e4] at h3; have := of_decide_eq_true h3; omega
    rw [if_neg e4] at h3
    by_cases e5 : x.k = 7 ∨ x.k = 8
    · rw [if_pos e5] at h3
      have := of_decide_eq_true h3
      omega
    · rw [if_neg e5] at h3; cases h3
/-- Stacks that may be: none to come below 0, none without kids to come at the end. -/
def StOk (L : List (Int × Int)) : Prop := L.length ≤ 18 ∧ (∀ p ∈ L, 0 ≤ p.2 ∧ p.2 ≤ 64) ∧ (∀ M p, L = M ++ [p] → 0 < p.2)
theorem woR_sub : ∀ (L : List (Int × Int)), (∀ p ∈ woR L, p ∈ L) ∧ (woR L).length ≤ L.length ∧ (∀ p M, woR L = p :: M → p.2 ≠ 0)
  | [] => ⟨fun p h => h, Nat.le_refl _, fun p M h => by cases h⟩
  | q :: L => by
    obtain ⟨h1, h2, h3⟩ := woR_sub L
    unfold woR
    by_cases h : q.2 = 0
    · rw [if_pos h]
      exact ⟨fun p hp => .tail _ (h1 p hp), by simp; omega, h3⟩
    · rw [if_neg h]
      refine ⟨fun p hp => hp, Nat.le_refl _, fun p M e => ?_⟩
      injection e with e1 _
      subst e1
      exact h
theorem wo_ok {L : List (Int × Int)} (hl : L.length ≤ 18) (h : ∀ p ∈ L, 0 ≤ p.2 ∧ p.2 ≤ 64) : StOk (wo L) := by
  obtain ⟨h1, h2, h3⟩ := woR_sub L.reverse
  refine ⟨by unfold wo; rw [List.length_reverse]; rw [List.length_reverse] at h2; omega, fun p hp => h p ?_, fun M p e => ?_⟩
  · unfold wo at hp
    rw [List.mem_reverse] at hp
    have := h1 p hp
    rwa [List.mem_reverse] at this
  · have e' : woR L.reverse = p :: M.reverse := by
      have := congrArg List.reverse e
      unfold wo at this
      simpa using this
    have hp : p ∈ L := by
      have := h1 p (by rw [e']; exact .head _)
      rwa [List.mem_reverse] at this
    have := h p hp
    have := h3 p _ e'
    omega
theorem stOk_one : StOk [((0 : Int), (1 : Int))] := by
  refine ⟨by decide, fun p hp => ?_, fun M p e => ?_⟩
  · simp at hp; subst hp; decide
  · have := congrArg List.reverse e
    simp at this
    rw [← this.1]; decide
theorem Stk.dec {w : World} {g cap : Nat} {L : List (Int × Int)} {p : Int × Int} {ys : List Value} (h : Stk w g cap (L ++ [p]) ys) (q : Int) :
    Stk (w.setCell ⟨g, L.length * 2 + 1, none⟩ (.int .i64 q)) g cap (L ++ [(p.1, q)]) (ys.set (L.length * 2 + 1) (.int .i64 q)) := by
  obtain ⟨h1, h2, h3, h4, h5⟩ := h
  refine ⟨h1.set _ _, by simpa using h2, by simpa using h3, h4, ?_⟩
  have e : (L ++ [(p.1, q)]).length = (L ++ [p]).length := by simp
  rw [e, List.take_set, h5, cellsP_app, cellsP_app, List.set_append_right _ _ (by rw [cellsP_len]; omega), cellsP_len]
  have e2 : L.length * 2 + 1 - L.length * 2 = 1 := by omega
  rw [e2]
  rfl
theorem bldP (a b : Int) (w : World) : (Instr.build 81 #[(0, .int .i64 a), (1, .int .i64 b)]).run Tryd.prog w = .ok (.agg #[.int .i64 a, .int .i64 b]) w := by kernel_rfl
theorem bldP1 (b : Int) (w : World) : (Instr.build 81 #[(1, .int .i64 b)]).run Tryd.prog w = .ok (.agg #[.int .i64 0, .int .i64 b]) w := by kernel_rfl
end Go.Proofs.YtafljgjkcnbhbaaDoor

/- Check: a type expression, the walk. -/
namespace Go.Proofs.YtafljgjkcnbhbaaDoor
open Go.RowKit
set_option linter.unusedVariables false

set_option maxRecDepth 100000 in
set_option maxHeartbeats 8000000 in
theorem ctype_any (va : Option Addr) (vc : Nat) (N : List Nd) (w : World) (hN : N.length ≤ 9223372036854775807) (hr : Hid (NRow w va N)) :
    Calls Tryd.prog 24 #[.slice va N.length vc] w fun e w' => e = .returned (.tuple #[.int .i64 (ct N 0 [(0, 1)]).1, .int .i64 (ct N 0 [(0, 1)]).2]) ∧ Below w.heap.size w w' := by
  obtain ⟨R, hR⟩ : ∃ R, ct N 0 [(0, 1)] = R := ⟨_, rfl⟩
  have HR := hide_ hR
  rw [hR]
  clear hR
  have hb1 := bldP1
  have hb2 := bldP
  have hk0 := Blk.newA w #[.int .i64 0, .int .i64 1] 81
  have HS0 : Hid (Stk (w.alloc (.cells #[.int .i64 0, .int .i64 1] 81)) w.heap.size 1 [(0, 1)] [.int .i64 0, .int .i64 1]) := ⟨hk0, rfl, Nat.le_refl _, by decide, rfl⟩
  have HB0 : Hid (Below w.heap.size w (w.alloc (.cells #[.int .i64 0, .int .i64 1] 81))) := (Below.refl _ _).alloc (Nat.le_refl _) _
  clear hk0
  go_enter Tryd.func24, Tryd.ntmps24
  go_wp2_with fail
  go_loopw [4, 13] (fun x4 x13 wr => ∃ (i : Nat) (L : List (Int × Int)) (g cap : Nat) (ys : List Value), i ≤ N.length ∧ x4 = .slice (some ⟨g, 0, none⟩) L.length cap ∧ x13 = .int .i64 (i : Int) ∧ w.heap.size ≤ g ∧ Hid (StOk L) ∧ Hid (Stk wr g cap L ys) ∧ Hid (ct (N.drop i) i L = R) ∧ Hid (Below w.heap.size w wr)) (fun _ x13 _ => N.length - (intOf x13).toNat)
  case atStart => exact ⟨0, [(0, 1)], w.heap.size, 1, _, Nat.zero_le _, rfl, rfl, Nat.le_refl _, stOk_one, HS0, HR, HB0⟩
  case round =>
    obtain ⟨i, L, g, cap, ys, hi, rfl, rfl, hg, HO, HS, HC, HB⟩ := hrel
    generalize wr = wq at *
    have hL18 : L.length ≤ 18 := HO.out.1
    clear HS0 HB0 HR
    by_cases hlt : i < N.length
    · have hlt' : (i : Int) < N.length := by omega
      obtain ⟨b, o, rfl, hb, hc⟩ := (hr.out.later HB.out).open (by omega)
      have hx : N[i]? = some (N[i]'hlt) := List.getElem?_eq_getElem hlt
      have hcx := hc i _ hx
      have hdr : N.drop i = N[i]'hlt :: N.drop (i + 1) := List.drop_eq_getElem_cons hlt
      generalize N[i]'hlt = x at *
      rw [hdr] at HC
      have i0 := hcx 0 (by decide); have i1 := hcx 1 (by decide); have i2 := hcx 2 (by decide); have i3 := hcx 3 (by decide); have i4 := hcx 4 (by decide); have i5 := hcx 5 (by decide); have i6 := hcx 6 (by decide)
      simp [ndc] at i0 i1 i2 i3 i4 i5 i6
      clear hc hx hcx hdr
      rcases List.eq_nil_or_concat L with rfl | ⟨M, p, hM⟩
      · have HV : Hid (R = ((i : Int), 62)) := hide_ (by rw [← HC.out]; rfl)
        simp only [List.length_nil]
        go_wp2
        go_ret2
        exact ⟨by rw [HV.out]; rfl, HB.out.alloc HB.out.size _⟩
      · rw [List.concat_eq_append] at hM
        subst hM
        have hlen : (M ++ [p]).length = M.length + 1 := by simp
        have HT : Hid (ctE (M ++ [p]) x = nodeE x.k x.n x.name x.label x.tag x.kids p.1 M.length) := hide_ (by unfold ctE ndE; simp)
        have HT2 : Hid (ctS (M ++ [p]) x = wo (M ++ [(p.1, p.2 - 1), (x.k, x.kids)])) := hide_ (by unfold ctS; simp)
        rw [hlen] at hL18 ⊢
        clear hlen
        have kx := Blk.newA wq #[.int .i64 x.k, .int .i64 x.n, .string x.name, .string x.label, .int .i64 x.tag, .int .i64 x.kids, .int .i64 x.a] 38
        have hBx : Below wq.heap.size wq (wq.alloc (.cells #[.int .i64 x.k, .int .i64 x.n, .string x.name, .string x.label, .int .i64 x.tag, .int .i64 x.kids, .int .i64 x.a] 38)) := (Below.refl _ _).alloc (Nat.le_refl _) _
        obtain ⟨wx, hwx⟩ : ∃ wx, wx = wq.alloc (.cells #[.int .i64 x.k, .int .i64 x.n, .string x.name, .string x.label, .int .i64 x.tag, .int .i64 x.kids, .int .i64 x.a] 38) := ⟨_, rfl⟩
        rw [← hwx] at kx hBx
        have KX := hide_ kx
        have HSx := hide_ (HS.out.later hBx)
        have HBx := hide_ (below_to HB.out hBx)
        have hgq : g < wq.heap.size := HS.out.1.lt
        clear kx hBx HS
        go_upto_region 5 with fail
        rw [← hwx]
        clear hwx i0 i1 i2 i3 i4 i5 i6
        have ha : ¬ (M.length : Int) + 1 = 0 := by omega
        have ha' : ((M.length : Int) + 1 == 0) = false := by simpa using ha
        go_upto_region 8 with fail
        have HSS : Hid (∀ w', Below wx.heap.size wx w' → Below wx.heap.size wx w' ∧ w'.cell? ⟨wq.heap.size, 0, none⟩ = some (.int .i64 x.k) ∧ w'.cell? ⟨wq.heap.size, 1, none⟩ = some (.int .i64 x.n) ∧ w'.cell? ⟨wq.heap.size, 2, none⟩ = some (.string x.name) ∧ w'.cell? ⟨wq.heap.size, 3, none⟩ = some (.string x.label) ∧ w'.cell? ⟨wq.heap.size, 4, none⟩ = some (.int .i64 x.tag) ∧ w'.cell? ⟨wq.heap.size, 5, none⟩ = some (.int .i64 x.kids) ∧ w'.cell? ⟨wq.heap.size, 6, none⟩ = some (.int .i64 x.a) ∧ w'.cell? ⟨g, M.length * 2, none⟩ = some (.int .i64 p.1)) := fun w' hB => by
          have h := KX.out.later hB
          exact ⟨hB, h.cell 0, h.cell 1, h.cell 2, h.cell 3, h.cell 4, h.cell 5, h.cell 6, (HSx.out.later hB).top.1⟩
        obtain ⟨E, hE⟩ : ∃ E, nodeE x.k x.n x.name x.label x.tag x.kids p.1 M.length = E := ⟨_, rfl⟩
        have HE := hide_ hE
        have HCon : Hid (∀ w', Calls Tryd.prog 41 #[.agg #[.int .i64 x.k, .int .i64 x.n, .string x.name, .string x.label, .int .i64 x.tag, .int .i64 x.kids, .int .i64 x.a], .int .i64 p.1, .int .i64 (M.length : Int)] w' fun e w'' => e = .returned (.int .i64 E) ∧ Below w'.heap.size w' w'') := fun w' => by
          have h := cnode_any x.k x.n x.name x.label x.tag x.kids x.a p.1 M.length w'
          rw [hE] at h
          exact h
        clear hE
        have hj4 : (M.length : Int) < (M.length : Int) + 1 := by omega
        go_wp2_with fail
        go_region_held_law (fun w' => Below wx.heap.size wx w' ∧ w'.cell? ⟨wq.heap.size, 0, none⟩ = some (.int .i64 x.k) ∧ w'.cell? ⟨wq.heap.size, 1, none⟩ = some (.int .i64 x.n) ∧ w'.cell? ⟨wq.heap.size, 2, none⟩ = some (.string x.name) ∧ w'.cell? ⟨wq.heap.size, 3, none⟩ = some (.string x.label) ∧ w'.cell? ⟨wq.heap.size, 4, none⟩ = some (.int .i64 x.tag) ∧ w'.cell? ⟨wq.heap.size, 5, none⟩ = some (.int .i64 x.kids) ∧ w'.cell? ⟨wq.heap.size, 6, none⟩ = some (.int .i64 x.a) ∧ w'.cell? ⟨g, M.length * 2, none⟩ = some (.int .i64 p.1)) (first | assumption | exact HSS.out _ ((Below.refl _ _).drew) | exact HSS.out _ (Below.refl _ _))
          ((go_at_call 41; refine (HCon.out _).mono ?_; rintro e w2 ⟨rfl, hB2⟩; (have G2 := HSS.out w2 (below_to (by first | assumption | exact And.left (by assumption)) hB2)); (clear hB2)))
        have hB2 := G2.1
        have HS2 := hide_ (HSx.out.later hB2)
        have HK2 := hide_ (KX.out.later hB2)
        have HB2 := hide_ (below_to HBx.out hB2)
        clear hB2 G2 HSS HCon KX HSx HBx HB hb hr
        by_cases hE0 : E = 0
        · subst hE0
          have hkid := ndE_kids (x := x) (of := p.1) (dp := M.length) HE.out
          have hp1 := HO.out.2.2 M p rfl
          have hp2 := HO.out.2.1 p (by simp)
          have HM : Hid (∀ q ∈ M, 0 ≤ q.2 ∧ q.2 ≤ 64) := fun q hq => HO.out.2.1 q (by simp [hq])
          have HO5 : Hid (StOk (wo (M ++ [(p.1, p.2 - 1)] ++ [(x.k, x.kids)]))) := wo_ok (by simp; omega) (fun q hq => by
            simp at hq
            rcases hq with h | rfl | rfl
            · exact HM.out q h
            · show 0 ≤ p.2 - 1 ∧ p.2 - 1 ≤ 64; omega
            · show 0 ≤ x.kids ∧ x.kids ≤ 64; omega)
          have HC5 : Hid (ct (N.drop (i + 1)) (i + 1) (wo (M ++ [(p.1, p.2 - 1)] ++ [(x.k, x.kids)])) = R) := hide_ (by
            have h := HC.out
            unfold ct at h
            rw [HT.out, HE.out, if_pos rfl, HT2.out] at h
            rw [List.append_assoc]
            exact h)
          obtain ⟨t1, t2⟩ := HS2.out.top
          have t3 := HS2.out.1.frozen (M.length * 2 + 1)
          have k3 := HK2.out.other ⟨g, M.length * 2 + 1, none⟩ (.int .i64 (p.2 - 1)) (by show wq.heap.size ≠ g; omega)
          have s3 := HS2.out.dec (p.2 - 1)
          have b3 : Below w.heap.size w (w2.setCell ⟨g, M.length * 2 + 1, none⟩ (.int .i64 (p.2 - 1))) := HB2.out.trans (((Upd.refl (fun k => k = g) w2).set ⟨g, M.length * 2 + 1, none⟩ _ (.inl rfl)).below w.heap.size HB2.out.size (fun k hk => by subst hk; exact hg))
          obtain ⟨w3, hw3⟩ : ∃ w3, w3 = w2.setCell ⟨g, M.length * 2 + 1, none⟩ (.int .i64 (p.2 - 1)) := ⟨_, rfl⟩
          rw [← hw3] at k3 s3 b3
          obtain ⟨gn, capn, w4, r4, o4, u4, c4⟩ := run_pushS (P := Tryd.prog) (t := 82) (e := 81) (z := .agg #[.int .i64 0, .int .i64 0]) (bytes := 16) Tryd.underlying82 (by kernel_rfl) rfl (by decide) w3 82 (s3.own (B := w.heap.size) hg) (prc (x.k, x.kids)) rfl (by intro u hu; simp [prc] at hu; rcases hu with rfl | rfl <;> rfl) (by unfold maxLen; simp; omega) (by simp; omega) b3.size
          have hgn : w.heap.size ≤ gn := by
            rcases c4 with h | h
            · have := own_is h; omega
            · exact Nat.le_trans b3.size h
          have b4 : Below w.heap.size w w4 := b3.trans (u4.below w.heap.size b3.size (fun k hk => by have := own_is hk; omega))
          have hl4 : (M ++ [(p.1, p.2 - 1)]).length + 1 = (M ++ [(p.1, p.2 - 1)] ++ [(x.k, x.kids)]).length := by simp
          have ec : cellsP (M ++ [(p.1, p.2 - 1)]) ++ prc (x.k, x.kids) = cellsP (M ++ [(p.1, p.2 - 1)] ++ [(x.k, x.kids)]) := by rw [cellsP_app (M ++ [(p.1, p.2 - 1)])]; simp [cellsP]
          rw [ec, hl4] at o4
          obtain ⟨-, ys4, hs4⟩ := Stk.of_own o4 (by simp)
          have HS4 := hide_ hs4
          have HB4 := hide_ b4
          have r4' : (Builtin.append_ #[82, 82] 82 #[.slice (some ⟨g, 0, none⟩) (M.length + 1) cap, .slice (some ⟨w3.heap.size, 0, none⟩) 1 1]).run Tryd.prog (w3.alloc (.cells #[.int .i64 x.k, .int .i64 x.kids] 81)) = .ok (.slice (some ⟨gn, 0, none⟩) ((M ++ [(p.1, p.2 - 1)] ++ [(x.k, x.kids)]).length) capn) w4 := by
            rw [hl4] at r4
            have e : (M ++ [(p.1, p.2 - 1)]).length = M.length + 1 := by simp
            rw [e] at r4
            exact r4
          have HR4 := hide_ r4'
          have d0 := k3.cell 0
          have d5 := k3.cell 5
          simp at d0 d5
          clear r4 r4' o4 u4 c4 hs4 b4 b3 s3 k3 hl4 ec HS2 HK2 HB2 HM HO HC HT HT2 HE
          obtain ⟨LL, hLL⟩ : ∃ LL, M ++ [(p.1, p.2 - 1)] ++ [(x.k, x.kids)] = LL := ⟨_, rfl⟩
          rw [hLL] at HR4 HS4 HO5 HC5
          clear hLL
          have hpb : p.2 - 1 ≤ 64 := by omega
          have hpa : 0 ≤ p.2 - 1 := by omega
          go_upto_region 12 with fail
          rw [← hw3]
          clear hw3 t1 t2 t3
          go_wp2_with (first
            | (at_builtin; have _t := HR4; refine wpList_append_run rfl (.tmp 45) (.tmp 51) 82 82 rfl rfl rfl HR4.out ?_; clear HR4)
            | (go_at_call 42; refine (without_any gn capn LL ys4 w4 HS4).mono ?_; rintro e w5 ⟨rfl, HS5, rfl⟩))
          go_roundw
          case rel => exact ⟨i + 1, wo LL, gn, capn, ys4, by omega, rfl, by go_num, hgn, HO5, HS5, HC5, HB4⟩
          case measure => simp [intOf]; omega
        · have hE' : (E != 0) = true := by simpa using hE0
          have HV : Hid (R = ((i : Int), E)) := hide_ (by rw [← HC.out]; unfold ct; rw [HT.out, HE.out, if_neg hE0])
          go_wp2
          go_ret2
          exact ⟨by rw [HV.out]; rfl, HB2.out⟩
    · obtain rfl : i = N.length := by omega
      have hC0 := HC.out
      rw [List.drop_length] at hC0
      rcases List.eq_nil_or_concat L with rfl | ⟨M, p, hM⟩
      · have HV : Hid (R = (0, 0)) := hide_ (by rw [← hC0]; rfl)
        clear hC0
        simp only [List.length_nil]
        go_wp2
        go_ret2
        exact ⟨by rw [HV.out]; rfl, HB.out⟩
      · rw [List.concat_eq_append] at hM
        subst hM
        have HV : Hid (R = ((N.length : Int), 62)) := hide_ (by rw [← hC0]; unfold ct; rw [if_neg (by simp)])
        clear hC0
        have hlen : (M ++ [p]).length = M.length + 1 := by simp
        rw [hlen]
        clear hlen
        have ha : (0 : Int) < (M.length : Int) + 1 := by omega
        go_wp2
        go_ret2
        exact ⟨by rw [HV.out]; rfl, HB.out⟩
end Go.Proofs.YtafljgjkcnbhbaaDoor

/- Check. -/
namespace Go.Proofs.YtafljgjkcnbhbaaDoor
open Go.RowKit
set_option linter.unusedVariables false

def ckL : List Df → Nat → Int × Int × Int
  | [], i => (0, 0, 0)
  | d :: D, i => if isName d.name = false then ((i : Int), 0, 62) else if (ct d.ty 0 [(0, 1)]).2 = 0 then ckL D (i + 1) else ((i : Int), (ct d.ty 0 [(0, 1)]).1, (ct d.ty 0 [(0, 1)]).2)
def ckP (D : List Df) : Int × Int × Int := if 256 < D.length then (256, 0, 5) else ckL D 0
set_option maxRecDepth 100000 in
set_option maxHeartbeats 8000000 in
theorem check_any (a : Option Addr) (c : Nat) (D : List Df) (w : World) (hL : Hid (Lens D)) (r : Hid (DRow w a D)) :
    Calls Tryd.prog 13 #[.agg #[.slice a D.length c]] w fun e w' => e = .returned (.tuple #[.int .i64 (ckP D).1, .int .i64 (ckP D).2.1, .int .i64 (ckP D).2.2]) ∧ Below w.heap.size w w' := by
  obtain ⟨R, hR⟩ : ∃ R, ckP D = R := ⟨_, rfl⟩
  have HR := hide_ hR
  rw [hR]
  clear hR
  have hD : D.length ≤ 9223372036854775807 := hL.out.1
  have HK := hide_ (Blk.newA w #[.slice a D.length c] 24)
  have HB0 : Hid (Below w.heap.size w (w.alloc (.cells #[.slice a D.length c] 24))) := (Below.refl _ _).alloc (Nat.le_refl _) _
  by_cases h256 : 256 < D.length
  · have h' : (256 : Int) < D.length := by omega
    have HV : Hid (R = (256, 0, 5)) := hide_ (by rw [← HR.out]; unfold ckP; rw [if_pos h256])
    go_enter Tryd.func13, Tryd.ntmps13
    go_wp2
    go_ret3
    exact ⟨by rw [HV.out]; rfl, HB0.out⟩
  have h' : ¬ (256 : Int) < D.length := by omega
  have HC0 : Hid (ckL (D.drop 0) 0 = R) := hide_ (by rw [← HR.out]; unfold ckP; rw [if_neg h256]; rfl)
  go_enter Tryd.func13, Tryd.ntmps13
  go_wp2_with fail
  go_loopw [16] (fun x16 wr => ∃ i : Nat, i ≤ D.length ∧ x16 = .int .i64 (i : Int) ∧ Hid (ckL (D.drop i) i = R) ∧ Hid (Below w.heap.size w wr)) (fun x16 _ => D.length - (intOf x16).toNat)
  case atStart => exact ⟨0, Nat.zero_le _, rfl, HC0, HB0⟩
  case round =>
    obtain ⟨i, hi, rfl, HC, HB⟩ := hrel
    generalize wr = wq at *
    clear HC0 HB0 HR HK
    by_cases hlt : i < D.length
    · have hlt' : (i : Int) < D.length := by omega
      obtain ⟨b, o, rfl, hb, hc⟩ := (r.out.later HB.out).open (by omega)
      have hx : D[i]? = some (D[i]'hlt) := List.getElem?_eq_getElem hlt
      obtain ⟨va, vc, hcx, hvc, -, hN⟩ := hc i _ hx
      have hdr : D.drop i = D[i]'hlt :: D.drop (i + 1) := List.drop_eq_getElem_cons hlt
      have hty : (D[i]'hlt).ty.length ≤ 9223372036854775807 := hL.out.2 _ (List.getElem_mem hlt)
      generalize D[i]'hlt = d at *
      rw [hdr] at HC
      have i0 := hcx 0 (by decide); have i1 := hcx 1 (by decide); have i2 := hcx 2 (by decide)
      simp [dfc] at i0 i1 i2
      clear hc hx hcx hdr
      have kx := Blk.newA wq #[.string d.name, .int .i64 d.a, .slice va d.ty.length vc] 41
      have hBx : Below wq.heap.size wq (wq.alloc (.cells #[.string d.name, .int .i64 d.a, .slice va d.ty.length vc] 41)) := (Below.refl _ _).alloc (Nat.le_refl _) _
      obtain ⟨wx, hwx⟩ : ∃ wx, wx = wq.alloc (.cells #[.string d.name, .int .i64 d.a, .slice va d.ty.length vc] 41) := ⟨_, rfl⟩
      rw [← hwx] at kx hBx
      have HN := hide_ (hN.later hBx)
      have HBx := hide_ (below_to HB.out hBx)
      have c0 := kx.cell 0; have c2 := kx.cell 2
      simp at c0 c2
      clear kx hBx hN
      go_upto_region 6 with fail
      rw [← hwx]
      clear hwx i0 i1 i2
      obtain ⟨nm, hnm⟩ : ∃ nm, isName d.name = nm := ⟨_, rfl⟩
      cases nm with
      | false =>
        have HV : Hid (R = ((i : Int), 0, 62)) := hide_ (by rw [← HC.out]; unfold ckL; rw [if_pos hnm])
        go_wp2_with (go_at_call 23; refine (name_any _ _).mono ?_; rintro e w' ⟨rfl, rfl⟩; rw [hnm])
        go_ret3
        exact ⟨by rw [HV.out]; rfl, HBx.out⟩
      | true =>
        obtain ⟨T, hT⟩ : ∃ T, ct d.ty 0 [(0, 1)] = T := ⟨_, rfl⟩
        have HT := hide_ hT
        have HCon := ctype_any va vc d.ty wx hty HN
        rw [hT] at HCon
        have HCon := hide_ HCon
        clear hT
        have HC1 : Hid ((if T.2 = 0 then ckL (D.drop (i + 1)) (i + 1) else ((i : Int), T.1, T.2)) = R) := hide_ (by
          have h := HC.out
          rw [ckL, if_neg (by rw [hnm]; decide), HT.out] at h
          exact h)
        by_cases hE : T.2 = 0
        · have HC2 : Hid (ckL (D.drop (i + 1)) (i + 1) = R) := hide_ (by rw [← HC1.out, if_pos hE])
          obtain ⟨T1, T2⟩ := T
          simp only at hE
          subst hE
          clear HC1 HC HT
          go_wp2_with (first | (go_at_call 23; refine (name_any _ _).mono ?_; rintro e w' ⟨rfl, rfl⟩; rw [hnm]) | (go_at_call 24; refine HCon.out.mono ?_; rintro e w2 ⟨rfl, hB2⟩; (have HB2 := hide_ hB2); (clear hB2)))
          go_roundw
          case rel => exact ⟨i + 1, by omega, by go_num, HC2, hide_ (below_to HBx.out HB2.out)⟩
          case measure => simp [intOf]; omega
        · have HV : Hid (R = ((i : Int), T.1, T.2)) := hide_ (by rw [← HC1.out, if_neg hE])
          obtain ⟨T1, T2⟩ := T
          simp only at hE
          have hE' : (T2 != 0) = true := by simpa using hE
          clear HC1 HC HT
          go_wp2_with (first | (go_at_call 23; refine (name_any _ _).mono ?_; rintro e w' ⟨rfl, rfl⟩; rw [hnm]) | (go_at_call 24; refine HCon.out.mono ?_; rintro e w2 ⟨rfl, hB2⟩; (have HB2 := hide_ hB2); (clear hB2)))
          go_ret3
          exact ⟨by rw [HV.out]; rfl, below_to HBx.out HB2.out⟩
    · obtain rfl : i = D.length := by omega
      have HV : Hid (R = (0, 0, 0)) := hide_ (by rw [← HC.out, List.drop_length]; rfl)
      go_wp2
      go_ret3
      exact ⟨by rw [HV.out]; rfl, HB.out⟩
end Go.Proofs.YtafljgjkcnbhbaaDoor

/- What Check takes is a tree; plain. -/
namespace Go.Proofs.YtafljgjkcnbhbaaDoor
open Go.RowKit
set_option linter.unusedVariables false

/-- n trees, one behind the other, kids of a node of kind k, d deep; fu: fuel. -/
def Forest : Nat → Nat → Int → Nat → List Nd → Prop
  | 0, _, _, n, N => n = 0 ∧ N = []
  | _ + 1, _, _, 0, N => N = []
  | fu + 1, d, k, n + 1, N => ∃ x A B, N = x :: (A ++ B) ∧ ndE x k d = 0 ∧ Forest fu (d + 1) x.k x.kids.toNat A ∧ Forest fu d k n B
theorem Forest.none (fu d : Nat) (k : Int) : Forest fu d k 0 [] := by
  cases fu with
  | zero => exact ⟨rfl, rfl⟩
  | succ f => exact rfl
theorem ct_cons {x : Nd} {N : List Nd} {i : Nat} {L : List (Int × Int)} (h : ct (x :: N) i L = (0, 0)) : ctE L x = 0 ∧ ct N (i + 1) (ctS L x) = (0, 0) := by
  unfold ct at h
  by_cases h0 : ctE L x = 0
  · rw [if_pos h0] at h; exact ⟨h0, h⟩
  · rw [if_neg h0] at h
    injection h with _ h
    exact absurd h h0
theorem forest_of : ∀ (m : Nat) (N : List Nd), N.length ≤ m → ∀ (i : Nat) (M : List (Int × Int)) (p : Int × Int), 0 < p.2 → ct N i (M ++ [p]) = (0, 0) →
    ∃ A B, N = A ++ B ∧ Forest m M.length p.1 p.2.toNat A ∧ ct B (i + A.length) (wo M) = (0, 0) := by
  intro m
  induction m with
  | zero =>
    intro N hN i M p hp h
    obtain rfl : N = [] := List.eq_nil_of_length_eq_zero (by omega)
    unfold ct at h
    rw [if_neg (by simp)] at h
    injection h with _ h
    cases h
  | succ m ih =>
    intro N hN i M p hp h
    cases N with
    | nil =>
      unfold ct at h
      rw [if_neg (by simp)] at h
      injection h with _ h
      cases h
    | cons x N =>
      obtain ⟨h0, h1⟩ := ct_cons h
      have hE : ctE (M ++ [p]) x = ndE x p.1 M.length := by unfold ctE; simp
      have hS : ctS (M ++ [p]) x = wo (M ++ [(p.1, p.2 - 1)] ++ [(x.k, x.kids)]) := by unfold ctS; simp
      rw [hE] at h0
      rw [hS] at h1
      have hk := ndE_kids h0
      simp only [List.length_cons] at hN
      have key : ∃ A1 B1, N = A1 ++ B1 ∧ Forest m (M.length + 1) x.k x.kids.toNat A1 ∧ ct B1 (i + 1 + A1.length) (wo (M ++ [(p.1, p.2 - 1)])) = (0, 0) := by
        by_cases hk0 : x.kids = 0
        · rw [wo_zero _ _ hk0] at h1
          exact ⟨[], N, rfl, by rw [hk0]; exact Forest.none _ _ _, h1⟩
        · rw [wo_more _ _ hk0] at h1
          obtain ⟨A, B, e1, e2, e3⟩ := ih N (by omega) (i + 1) (M ++ [(p.1, p.2 - 1)]) (x.k, x.kids) (by show 0 < x.kids; omega) h1
          rw [List.length_append] at e2
          exact ⟨A, B, e1, e2, e3⟩
      obtain ⟨A1, B1, rfl, e2, e3⟩ := key
      have hn : p.2.toNat = (p.2 - 1).toNat + 1 := by omega
      by_cases hp1 : p.2 - 1 = 0
      · rw [wo_zero _ _ hp1] at e3
        refine ⟨x :: A1, B1, rfl, ?_, by rw [List.length_cons]; rw [show i + (A1.length + 1) = i + 1 + A1.length by omega]; exact e3⟩
        rw [hn, hp1]
        exact ⟨x, A1, [], by simp, h0, e2, Forest.none _ _ _⟩
      · rw [wo_more _ _ hp1] at e3
        simp only [List.length_append] at hN
        obtain ⟨A2, B2, rfl, e5, e6⟩ := ih B1 (by omega) (i + 1 + A1.length) M (p.1, p.2 - 1) (by show 0 < p.2 - 1; omega) e3
        refine ⟨x :: (A1 ++ A2), B2, by simp, ?_, ?_⟩
        · rw [hn]
          exact ⟨x, A1, A2, rfl, h0, e2, e5⟩
        · rw [List.length_cons, List.length_append, show i + (A1.length + A2.length + 1) = i + 1 + A1.length + A2.length by omega]
          exact e6
theorem tree_of {N : List Nd} (h : ct N 0 [(0, 1)] = (0, 0)) : Forest N.length 0 0 1 N := by
  obtain ⟨A, B, rfl, h2, h3⟩ := forest_of N.length N (Nat.le_refl _) 0 [] (0, 1) (by decide) h
  cases B with
  | nil => rw [List.append_nil] at h2 ⊢; exact h2
  | cons x B =>
    obtain ⟨h4, _⟩ := ct_cons h3
    have : ctE (wo []) x = 62 := rfl
    rw [this] at h4
    cases h4
/-- A source that Check takes. -/
theorem ck_all : ∀ (D : List Df) (i : Nat), (ckL D i).2.2 = 0 → ∀ d ∈ D, isName d.name = true ∧ ct d.ty 0 [(0, 1)] = (0, 0)
  | [], i, h, d, hd => by cases hd
  | e :: D, i, h, d, hd => by
    unfold ckL at h
    by_cases hn : isName e.name = false
    · rw [if_pos hn] at h; cases h
    rw [if_neg hn] at h
    by_cases ht : (ct e.ty 0 [(0, 1)]).2 = 0
    · rw [if_pos ht] at h
      rcases List.mem_cons.1 hd with rfl | hd
      · refine ⟨by simpa using hn, ?_⟩
        have key : ∀ (N : List Nd) (i : Nat) (L : List (Int × Int)), (ct N i L).2 = 0 → ct N i L = (0, 0) := by
          intro N
          induction N with
          | nil =>
            intro i L h
            unfold ct at h ⊢
            by_cases hL : L = []
            · rw [if_pos hL]
            · rw [if_neg hL] at h; cases h
          | cons x N ih =>
            intro i L h
            unfold ct at h ⊢
            by_cases h0 : ctE L x = 0
            · rw [if_pos h0] at h ⊢; exact ih _ _ h
            · rw [if_neg h0] at h; exact absurd h h0
        exact key _ _ _ ht
      · exact ck_all D (i + 1) h d hd
    · rw [if_neg ht] at h; exact absurd h ht
theorem ckP_all {D : List Df} (h : (ckP D).2.2 = 0) : D.length ≤ 256 ∧ ∀ d ∈ D, isName d.name = true ∧ Forest d.ty.length 0 0 1 d.ty := by
  unfold ckP at h
  by_cases hl : 256 < D.length
  · rw [if_pos hl] at h; cases h
  · rw [if_neg hl] at h
    exact ⟨by omega, fun d hd => ⟨(ck_all D 0 h d hd).1, tree_of (ck_all D 0 h d hd).2⟩⟩
end Go.Proofs.YtafljgjkcnbhbaaDoor

/- A tree written as tokens is parsed back; plain. -/
namespace Go.Proofs.YtafljgjkcnbhbaaDoor
open Go.RowKit
set_option linter.unusedVariables false

def qw (s : ByteArray) : Q := ⟨1, s, 0⟩
def qm (b : UInt8) : Q := ⟨3, ⟨#[b]⟩, 0⟩
def qn (n : Int) : Q := ⟨2, ⟨#[]⟩, n⟩
def wordN (n : Int) : ByteArray := if n = 1 then ⟨#[117, 56]⟩ else if n = 2 then ⟨#[117, 49, 54]⟩ else if n = 4 then ⟨#[117, 51, 50]⟩ else ⟨#[117, 54, 52]⟩
def wordT (x : Nd) : ByteArray :=
  if x.k = 1 then wordN x.n else if x.k = 2 then ⟨#[98, 111, 111, 108]⟩ else if x.k = 3 then ⟨#[118, 97, 114, 105, 110, 116]⟩ else if x.k = 4 then ⟨#[118, 101, 99, 116, 111, 114]⟩
  else if x.k = 5 then ⟨#[108, 105, 115, 116]⟩ else if x.k = 6 then ⟨#[111, 112, 116, 105, 111, 110]⟩ else if x.k = 7 then ⟨#[117, 110, 105, 111, 110]⟩ else if x.k = 8 then ⟨#[115, 116, 114, 117, 99, 116]⟩ else x.name
/-- What stands ahead of a kid; what opens and closes a type; what stands between two kids. -/
def hdT (k : Int) (x : Nd) : List Q := if k = 7 then [qn x.tag, qm 58] else if k = 8 then [qw x.label, qm 58] else []
def opnT (x : Nd) : List Q := if x.k = 4 ∨ x.k = 5 ∨ x.k = 6 then [qw (wordT x), qm 60] else if x.k = 7 ∨ x.k = 8 then [qw (wordT x), qm 123] else [qw (wordT x)]
def clsT (x : Nd) : List Q := if x.k = 4 ∨ x.k = 5 then [qm 44, qn x.n, qm 62] else if x.k = 6 then [qm 62] else if x.k = 7 ∨ x.k = 8 then [qm 125] else []
def sepT (k : Int) (n : Nat) : List Q := if (k = 7 ∨ k = 8) ∧ 0 < n then [qm 44] else []
/-- n trees written from token number b on: their tokens, and the nodes with their tokens' numbers. -/
def WP : Nat → Nat → Int → Nat → List Nd → Nat → List Q → List Nd → Prop
  | 0, _, _, n, N, _, T, N' => n = 0 ∧ N = [] ∧ T = [] ∧ N' = []
  | _ + 1, _, _, 0, N, _, T, N' => N = [] ∧ T = [] ∧ N' = []
  | fu + 1, d, k, n + 1, N, b, T, N' => ∃ x A B TA TB A' B', N = x :: (A ++ B) ∧ ndE x k d = 0 ∧
      WP fu (d + 1) x.k x.kids.toNat A (b + (hdT k x).length + (opnT x).length) TA A' ∧
      WP fu d k n B (b + (hdT k x).length + (opnT x).length + TA.length + (clsT x).length + (sepT k n).length) TB B' ∧
      T = hdT k x ++ (opnT x ++ (TA ++ (clsT x ++ (sepT k n ++ TB)))) ∧ N' = { x with a := (b : Int) } :: (A' ++ B')
theorem wp_of : ∀ (fu d : Nat) (k : Int) (n : Nat) (N : List Nd), Forest fu d k n N → ∀ b, ∃ T N', WP fu d k n N b T N'
  | 0, d, k, n, N, h, b => ⟨[], [], h.1, h.2, rfl, rfl⟩
  | fu + 1, d, k, 0, N, h, b => ⟨[], [], h, rfl, rfl⟩
  | fu + 1, d, k, n + 1, N, h, b => by
    obtain ⟨x, A, B, h1, h2, h3, h4⟩ := h
    obtain ⟨TA, A', hA⟩ := wp_of fu (d + 1) x.k x.kids.toNat A h3 (b + (hdT k x).length + (opnT x).length)
    obtain ⟨TB, B', hB⟩ := wp_of fu d k n B h4 (b + (hdT k x).length + (opnT x).length + TA.length + (clsT x).length + (sepT k n).length)
    exact ⟨_, _, x, A, B, TA, TB, A', B', h1, h2, hA, hB, rfl, rfl⟩
theorem WP.zero {fu d : Nat} {k : Int} {N : List Nd} {b : Nat} {T : List Q} {N' : List Nd} (h : WP fu d k 0 N b T N') : N = [] ∧ T = [] ∧ N' = [] := by
  cases fu with
  | zero => exact h.2
  | succ f => exact h
/-! ### Tokens at a place -/
def AtT (qs : List Q) (i : Nat) (T : List Q) : Prop := ∃ R, qs.drop i = T ++ R
theorem AtT.head {qs : List Q} {i : Nat} {q : Q} {T : List Q} (h : AtT qs i (q :: T)) : qAt qs i = q ∧ AtT qs (i + 1) T := by
  obtain ⟨R, h⟩ := h
  refine ⟨?_, R, ?_⟩
  · have h2 := congrArg (fun l => l[0]?) h
    simp only [List.getElem?_drop, Nat.add_zero, List.cons_append, List.getElem?_cons_zero] at h2
    unfold qAt
    rw [List.getD_eq_getElem?_getD, h2]
    rfl
  · rw [← List.drop_drop, h]
    rfl
theorem AtT.app {qs : List Q} {i : Nat} {T U : List Q} (h : AtT qs i (T ++ U)) : AtT qs i T ∧ AtT qs (i + T.length) U := by
  obtain ⟨R, h⟩ := h
  refine ⟨⟨U ++ R, by rw [h, List.append_assoc]⟩, R, ?_⟩
  rw [← List.drop_drop, h, List.append_assoc, List.drop_left' rfl]
theorem txt_at {qs : List Q} {i : Nat} {b : UInt8} (h : qAt qs i = qm b) : txt qs ⟨#[b]⟩ i = .ok (i + 1) := by
  unfold txt tak
  rw [h, if_pos (by simp [isT, qm])]
theorem num_at {qs : List Q} {i : Nat} {n : Int} (h : qAt qs i = qn n) : tak qs isNum i = .ok (i + 1) := by
  unfold tak
  rw [h, if_pos (by simp [isNum, qn])]
/-! ### What a good node is -/
theorem nd_ok {x : Nd} {of : Int} {dp : Nat} (h : ndE x of dp = 0) : dp ≤ 16 ∧ kindOk x.k x.n x.kids = true ∧ nameOk x.name (decide (x.k = 9)) = true ∧ nameOk x.label (decide (of = 8)) = true ∧ (of ≠ 7 → x.tag = 0) ∧ x.kids ≤ 64 := by
  have hk := ndE_kids h
  unfold ndE nodeE at h
  by_cases h1 : 16 < dp
  · rw [if_pos h1] at h; cases h
  rw [if_neg h1] at h
  by_cases h2 : (x.k = 8 ∨ x.k = 7) ∧ 64 < x.kids
  · rw [if_pos h2] at h; cases h
  rw [if_neg h2] at h
  cases h3 : kindOk x.k x.n x.kids with
  | false => rw [if_pos (.inl h3)] at h; cases h
  | true =>
  cases h4 : nameOk x.name (decide (x.k = 9)) with
  | false => rw [if_pos (.inr (.inl h4))] at h; cases h
  | true =>
  cases h5 : nameOk x.label (decide (of = 8)) with
  | false => rw [if_pos (.inr (.inr h5))] at h; cases h
  | true =>
  rw [if_neg (by rw [h3, h4, h5]; simp)] at h
  refine ⟨by omega, rfl, rfl, rfl, fun h7 => ?_, hk.2.2⟩
  by_cases ht : x.tag = 0
  · exact ht
  · rw [if_pos ⟨ht, .inl h7⟩] at h; cases h
theorem empty_nm {s : ByteArray} (h : nameOk s false = true) : s = ⟨#[]⟩ := by
  have h0 : s.size = 0 := of_decide_eq_true h
  apply ByteArray.ext
  exact Array.eq_empty_of_size_eq_zero h0
theorem beg_name {t : ByteArray} (h : isName t = true) : beg t = (9, 0) := by
  have key : ∀ s : ByteArray, isName s = false → t ≠ s := fun s hs e => by rw [e, hs] at h; cases h
  unfold beg
  rw [if_neg (key _ (by decide)), if_neg (key _ (by decide)), if_neg (key _ (by decide)), if_neg (key _ (by decide)), if_neg (key _ (by decide)), if_neg (key _ (by decide)), if_neg (key _ (by decide)), if_neg (key _ (by decide)), if_neg (key _ (by decide)), if_neg (key _ (by decide)), if_neg (key _ (by decide)), if_pos h]
/-- The kinds. -/
theorem kinds {x : Nd} {of : Int} {dp : Nat} (h : ndE x of dp = 0) :
    (x.k = 9 ∧ x.n = 0 ∧ x.kids = 0 ∧ isName x.name = true) ∨ (x.k ≠ 9 ∧ x.name = ⟨#[]⟩ ∧
      (((x.k = 1 ∨ x.k = 2 ∨ x.k = 3) ∧ x.kids = 0 ∧ beg (wordT x) = (x.k, x.n)) ∨ ((x.k = 4 ∨ x.k = 5) ∧ x.kids = 1 ∧ beg (wordT x) = (x.k, 0)) ∨ (x.k = 6 ∧ x.kids = 1 ∧ x.n = 0 ∧ beg (wordT x) = (x.k, 0)) ∨ ((x.k = 7 ∨ x.k = 8) ∧ 0 < x.kids ∧ x.n = 0 ∧ beg (wordT x) = (x.k, 0)))) := by
  obtain ⟨_, h1, h2, _, _, _⟩ := nd_ok h
  obtain ⟨k, n, nm, lb, tg, kd, a⟩ := x
  simp only at h1 h2 ⊢
  by_cases h9 : k = 9
  · subst h9
    left
    unfold kindOk at h1
    rw [if_neg (by decide), if_pos (by decide)] at h1
    have := of_decide_eq_true h1
    exact ⟨rfl, this.1, this.2, h2⟩
  right
  rw [decide_eq_false h9] at h2
  refine ⟨h9, empty_nm h2, ?_⟩
  unfold kindOk at h1
  by_cases e1 : k = 1
  · subst e1
    rw [if_pos rfl] at h1
    have h3 := of_decide_eq_true h1
    refine .inl ⟨.inl rfl, h3.2, ?_⟩
    rcases h3.1 with rfl | rfl | rfl | rfl <;> rfl
  rw [if_neg e1] at h1
  by_cases e2 : k = 2 ∨ k = 3 ∨ k = 9
  · rw [if_pos e2] at h1
    have h3 := of_decide_eq_true h1
    obtain ⟨rfl, hk⟩ := h3
    rcases e2 with rfl | rfl | rfl
    · exact .inl ⟨.inr (.inl rfl), hk, rfl⟩
    · exact .inl ⟨.inr (.inr rfl), hk, rfl⟩
    · exact absurd rfl h9
  rw [if_neg e2] at h1
  by_cases e3 : k = 4 ∨ k = 5
  · rw [if_pos e3, Bool.and_eq_true] at h1
    have h3 := of_decide_eq_true h1.2
    refine .inr (.inl ⟨e3, h3, ?_⟩)
    rcases e3 with rfl | rfl <;> rfl
  rw [if_neg e3] at h1
  by_cases e4 : k = 6
  · subst e4
    rw [if_pos rfl] at h1
    have h3 := of_decide_eq_true h1
    exact .inr (.inr (.inl ⟨rfl, h3.2, h3.1, rfl⟩))
  rw [if_neg e4] at h1
  by_cases e5 : k = 7 ∨ k = 8
  · rw [if_pos e5] at h1
    have h3 := of_decide_eq_true h1
    refine .inr (.inr (.inr ⟨e5, h3.2, h3.1, ?_⟩))
    rcases e5 with rfl | rfl <;> rfl
  · rw [if_neg e5] at h1; cases h1
/-! ### Parsed back -/
section
variable {qs : List Q}
def NodeB (qs : List Q) (fu : Nat) : Prop := ∀ (d : Nat) (k : Int) (x : Nd) (A : List Nd) (b c : Nat) (TA : List Q) (A' : List Nd), ndE x k d = 0 → WP fu (d + 1) x.k x.kids.toNat A (c + (opnT x).length) TA A' →
    AtT qs c (opnT x ++ (TA ++ clsT x)) → nodeP qs (17 - d) { nd0 with label := x.label, tag := x.tag, a := (b : Int) } c = .ok ({ x with a := (b : Int) } :: A', c + (opnT x).length + TA.length + (clsT x).length)
/-- One kid of a node that takes no label and no tag. -/
theorem one_plain {F fu d : Nat} (H : ∀ f, f < F → NodeB qs f) (hF : fu ≤ F) {k : Int} (h7 : k ≠ 7) (h8 : k ≠ 8) {A : List Nd} {c : Nat} {T : List Q} {A' : List Nd} (h : WP fu d k 1 A c T A') (ht : AtT qs c T) :
    nodeP qs (17 - d) { nd0 with a := (c : Int) } c = .ok (A', c + T.length) := by
  cases fu with
  | zero => exact absurd h.1 (by decide)
  | succ f =>
    obtain ⟨x, A1, B, TA, TB, A1', B', rfl, h2, h3, h4, rfl, rfl⟩ := h
    obtain ⟨rfl, rfl, rfl⟩ := h4.zero
    have hh : hdT k x = [] := by unfold hdT; rw [if_neg h7, if_neg h8]
    have hs : sepT k 0 = [] := by unfold sepT; rw [if_neg (by omega)]
    rw [hh] at h3 ht ⊢
    rw [hs] at ht ⊢
    simp only [List.length_nil, Nat.add_zero, List.nil_append, List.append_nil] at h3 ht ⊢
    obtain ⟨_, _, _, hl, htg, _⟩ := nd_ok h2
    have hlb : x.label = ⟨#[]⟩ := empty_nm (by rw [decide_eq_false h8] at hl; exact hl)
    have htag := htg h7
    have := H f (by omega) d k x A1 c c TA A1' h2 h3 ht
    have e : ({ nd0 with label := x.label, tag := x.tag, a := (c : Int) } : Nd) = { nd0 with a := (c : Int) } := by rw [hlb, htag]; rfl
    rw [e] at this
    rw [this]
    simp only [List.length_append]
    rw [show c + (opnT x).length + TA.length + (clsT x).length = c + ((opnT x).length + (TA.length + (clsT x).length)) by omega]
/-- One arm or field. -/
theorem one_part {f d : Nat} (H : NodeB qs f) {k : Int} (hk : k = 7 ∨ k = 8) {x : Nd} {A : List Nd} {b cnt : Nat} {TA : List Q} {A' : List Nd} (hc : cnt < 64) (h2 : ndE x k d = 0) (h3 : WP f (d + 1) x.k x.kids.toNat A (b + (hdT k x).length + (opnT x).length) TA A')
    (ht : AtT qs b (hdT k x ++ (opnT x ++ (TA ++ clsT x)))) :
    (if k = 7 then armP qs (nodeP qs (17 - d)) cnt b else fieldP qs (nodeP qs (17 - d)) cnt b) = .ok ({ x with a := (b : Int) } :: A', b + (hdT k x).length + (opnT x).length + TA.length + (clsT x).length) := by
  obtain ⟨_, _, _, hl, htg, _⟩ := nd_ok h2
  rcases hk with rfl | rfl
  · rw [if_pos rfl]
    have hh : hdT 7 x = [qn x.tag, qm 58] := rfl
    have hlb : x.label = ⟨#[]⟩ := empty_nm hl
    rw [hh] at ht h3 ⊢
    obtain ⟨t0, ht⟩ := AtT.head (show AtT qs b (qn x.tag :: (qm 58 :: (opnT x ++ (TA ++ clsT x)))) from ht)
    obtain ⟨t1, ht⟩ := AtT.head ht
    have := H d 7 x A b (b + 1 + 1) TA A' h2 h3 ht
    unfold armP
    rw [num_at t0, bnd_ok]
    unfold partP
    rw [decide_eq_true hc, if_pos rfl, txt_at t1, bnd_ok, t0]
    have e : ({ nd0 with label := x.label, tag := x.tag, a := (b : Int) } : Nd) = { nd0 with tag := x.tag, a := (b : Int) } := by rw [hlb]; rfl
    rw [e] at this
    exact this
  · rw [if_neg (by decide)]
    have hh : hdT 8 x = [qw x.label, qm 58] := rfl
    have htag : x.tag = 0 := htg (by decide)
    have hlb : isName x.label = true := hl
    rw [hh] at ht h3 ⊢
    obtain ⟨t0, ht⟩ := AtT.head (show AtT qs b (qw x.label :: (qm 58 :: (opnT x ++ (TA ++ clsT x)))) from ht)
    obtain ⟨t1, ht⟩ := AtT.head ht
    have := H d 8 x A b (b + 1 + 1) TA A' h2 h3 ht
    unfold fieldP
    have tk : tak qs isNm b = .ok (b + 1) := by unfold tak; rw [t0, if_pos (by exact hlb)]
    rw [tk, bnd_ok]
    unfold partP
    rw [decide_eq_true hc, if_pos rfl, txt_at t1, bnd_ok, t0]
    have e : ({ nd0 with label := x.label, tag := x.tag, a := (b : Int) } : Nd) = { nd0 with label := x.label, a := (b : Int) } := by rw [htag]; rfl
    rw [e] at this
    exact this
/-- Further arms or fields. -/
theorem more_part {F d : Nat} (H : ∀ f, f < F → NodeB qs f) {k : Int} (hk : k = 7 ∨ k = 8) : ∀ (fu : Nat), fu ≤ F → ∀ (n : Nat) (B : List Nd) (i cnt g : Nat) (TB : List Q) (B' Na : List Nd), n < g → cnt + n ≤ 64 →
    WP fu d k n B (i + (sepT k n).length) TB B' → AtT qs i (sepT k n ++ (TB ++ [qm 125])) →
    moreP qs (fun c j => if k = 7 then armP qs (nodeP qs (17 - d)) c j else fieldP qs (nodeP qs (17 - d)) c j) g cnt Na i = .ok (Na ++ B', cnt + n, i + (sepT k n).length + TB.length + 1) := by
  have hend : ∀ (i cnt g : Nat) (Na : List Nd), 0 < g → AtT qs i [qm 125] → moreP qs (fun c j => if k = 7 then armP qs (nodeP qs (17 - d)) c j else fieldP qs (nodeP qs (17 - d)) c j) g cnt Na i = .ok (Na ++ [], cnt + 0, i + 0 + 0 + 1) := by
    intro i cnt g Na hg ht
    obtain ⟨t0, _⟩ := ht.head
    cases g with
    | zero => omega
    | succ g =>
      unfold moreP
      rw [t0, if_neg (by decide), txt_at t0, bnd_ok]
      simp
  intro fu
  induction fu with
  | zero =>
    intro hF n B i cnt g TB B' Na hg hc h ht
    obtain ⟨rfl, rfl, rfl, rfl⟩ := h
    have hs : sepT k 0 = [] := by unfold sepT; rw [if_neg (by omega)]
    rw [hs] at ht ⊢
    exact hend i cnt g Na (by omega) ht
  | succ f ih =>
    intro hF n B i cnt g TB B' Na hg hc h ht
    cases n with
    | zero =>
      obtain ⟨rfl, rfl, rfl⟩ := h
      have hs : sepT k 0 = [] := by unfold sepT; rw [if_neg (by omega)]
      rw [hs] at ht ⊢
      exact hend i cnt g Na (by omega) ht
    | succ n =>
      obtain ⟨x, A, B2, TA, TB2, A', B2', rfl, h2, h3, h4, rfl, rfl⟩ := h
      have hs : sepT k (n + 1) = [qm 44] := by unfold sepT; rw [if_pos ⟨hk, by omega⟩]
      rw [hs] at ht h3 h4 ⊢
      obtain ⟨t0, ht⟩ := AtT.head (show AtT qs i (qm 44 :: _) from ht)
      simp only [List.append_assoc, List.length_singleton] at ht h3 h4 ⊢
      have ht1 : AtT qs (i + 1) ((hdT k x ++ (opnT x ++ (TA ++ clsT x))) ++ (sepT k n ++ (TB2 ++ [qm 125]))) := by simpa [List.append_assoc] using ht
      obtain ⟨ta, tb⟩ := ht1.app
      cases g with
      | zero => omega
      | succ g =>
        unfold moreP
        rw [t0, if_pos (by decide)]
        rw [one_part (H f (by omega)) hk (by omega) h2 h3 ta, bnd_ok]
        simp only [List.length_append] at tb
        have e1 : i + 1 + ((hdT k x).length + ((opnT x).length + (TA.length + (clsT x).length))) = i + 1 + (hdT k x).length + (opnT x).length + TA.length + (clsT x).length := by omega
        rw [e1] at tb
        rw [ih (by omega) n B2 _ (cnt + 1) g TB2 B2' (Na ++ ({ x with a := ((i + 1 : Nat) : Int) } :: A')) (by omega) (by omega) h4 tb]
        simp only [List.length_append, List.append_assoc, List.cons_append]
        congr 2
        congr 1 <;> omega
theorem node_b : ∀ fu, NodeB qs fu := by
  intro fu
  induction fu using Nat.strongRecOn with
  | _ fu H =>
  intro d k x A b c TA A' h2 hA ht
  obtain ⟨hd, _, _, hl, htg, hk64⟩ := nd_ok h2
  have hf : 17 - d = (17 - (d + 1)) + 1 := by omega
  have hw : ∃ W, opnT x = qw (wordT x) :: W := by
    unfold opnT
    split
    · exact ⟨_, rfl⟩
    · split
      · exact ⟨_, rfl⟩
      · exact ⟨_, rfl⟩
  obtain ⟨W, hW⟩ := hw
  have t0 : qAt qs c = qw (wordT x) := by
    rw [hW] at ht
    exact (AtT.head (show AtT qs c (qw (wordT x) :: _) from ht)).1
  have hqt : (qw (wordT x)).t = wordT x := rfl
  rw [hf, nodeP, t0, hqt]
  rcases kinds h2 with ⟨k9, n0, kd0, hnm⟩ | ⟨k9, hnm, h4⟩
  · have hwt : wordT x = x.name := by unfold wordT; rw [if_neg (by omega), if_neg (by omega), if_neg (by omega), if_neg (by omega), if_neg (by omega), if_neg (by omega), if_neg (by omega), if_neg (by omega)]
    have ho : opnT x = [qw (wordT x)] := by unfold opnT; rw [if_neg (by omega), if_neg (by omega)]
    have hc : clsT x = [] := by unfold clsT; rw [if_neg (by omega), if_neg (by omega), if_neg (by omega)]
    rw [kd0] at hA
    obtain ⟨rfl, rfl, rfl⟩ := hA.zero
    rw [hwt, beg_name hnm, if_neg (by decide), ho, hc]
    unfold bodyP
    rw [if_pos rfl, t0, hqt, hwt]
    obtain ⟨xk, xn, xnm, xlb, xtg, xkd, xa⟩ := x
    simp only at k9 n0 kd0
    subst k9 n0 kd0
    rfl
  · rcases h4 with ⟨hk, kd0, hb⟩ | ⟨hk, kd1, hb⟩ | ⟨hk, kd1, n0, hb⟩ | ⟨hk, kdp, n0, hb⟩
    · have ho : opnT x = [qw (wordT x)] := by unfold opnT; rw [if_neg (by omega), if_neg (by omega)]
      have hc : clsT x = [] := by unfold clsT; rw [if_neg (by omega), if_neg (by omega), if_neg (by omega)]
      rw [kd0] at hA
      obtain ⟨rfl, rfl, rfl⟩ := hA.zero
      rw [hb]
      simp only
      rw [if_neg (by omega), ho, hc]
      unfold bodyP
      simp only
      rw [if_neg k9, if_neg (by omega), if_neg (by omega), if_neg (by omega), if_neg (by omega)]
      obtain ⟨xk, xn, xnm, xlb, xtg, xkd, xa⟩ := x
      simp only at kd0 hnm
      subst kd0 hnm
      rfl
    · have ho : opnT x = [qw (wordT x), qm 60] := by unfold opnT; rw [if_pos (by omega)]
      have hc : clsT x = [qm 44, qn x.n, qm 62] := by unfold clsT; rw [if_pos hk]
      rw [kd1] at hA
      rw [ho, hc] at ht ⊢
      rw [ho] at hA
      rw [hb]
      simp only
      rw [if_neg (by omega)]
      unfold bodyP
      simp only
      rw [if_neg k9, if_pos hk]
      obtain ⟨_, ht⟩ := AtT.head (show AtT qs c (qw (wordT x) :: (qm 60 :: (TA ++ [qm 44, qn x.n, qm 62]))) from ht)
      obtain ⟨t1, ht⟩ := AtT.head ht
      obtain ⟨ta, ht⟩ := AtT.app ht
      obtain ⟨t2, ht⟩ := AtT.head ht
      obtain ⟨t3, ht⟩ := AtT.head ht
      obtain ⟨t4, ht⟩ := AtT.head ht
      have hsub := one_plain (d := d + 1) H (Nat.le_refl _) (by omega) (by omega) hA ta
      unfold itemsP
      rw [txt_at t1, bnd_ok]
      have el : c + [qw (wordT x), qm 60].length = c + 1 + 1 := rfl
      rw [el] at hsub
      rw [hsub, bnd_ok]
      simp only
      rw [txt_at t2, bnd_ok, num_at t3, bnd_ok, txt_at t4, bnd_ok, bnd_ok, t3]
      obtain ⟨xk, xn, xnm, xlb, xtg, xkd, xa⟩ := x
      simp only at kd1 hnm
      subst kd1 hnm
      simp only [List.length_cons, List.length_nil, qn]
      congr 2
    · have ho : opnT x = [qw (wordT x), qm 60] := by unfold opnT; rw [if_pos (by omega)]
      have hc : clsT x = [qm 62] := by unfold clsT; rw [if_neg (by omega), if_pos hk]
      rw [kd1] at hA
      rw [ho, hc] at ht ⊢
      rw [ho] at hA
      rw [hb]
      simp only
      rw [if_neg (by omega)]
      unfold bodyP
      simp only
      rw [if_neg k9, if_neg (by omega), if_pos hk]
      obtain ⟨_, ht⟩ := AtT.head (show AtT qs c (qw (wordT x) :: (qm 60 :: (TA ++ [qm 62]))) from ht)
      obtain ⟨t1, ht⟩ := AtT.head ht
      obtain ⟨ta, ht⟩ := AtT.app ht
      obtain ⟨t2, ht⟩ := AtT.head ht
      have hsub := one_plain (d := d + 1) H (Nat.le_refl _) (by omega) (by omega) hA ta
      unfold optionP
      rw [txt_at t1, bnd_ok]
      have el : c + [qw (wordT x), qm 60].length = c + 1 + 1 := rfl
      rw [el] at hsub
      rw [hsub, bnd_ok]
      simp only
      rw [txt_at t2, bnd_ok, bnd_ok]
      obtain ⟨xk, xn, xnm, xlb, xtg, xkd, xa⟩ := x
      simp only at kd1 hnm n0
      subst kd1 hnm n0
      simp only [List.length_cons, List.length_nil]
      congr 2
    · have ho : opnT x = [qw (wordT x), qm 123] := by unfold opnT; rw [if_neg (by omega), if_pos hk]
      have hc : clsT x = [qm 125] := by unfold clsT; rw [if_neg (by omega), if_neg (by omega), if_pos hk]
      obtain ⟨n, hn⟩ : ∃ n, x.kids.toNat = n + 1 := ⟨x.kids.toNat - 1, by omega⟩
      rw [hn] at hA
      rw [ho, hc] at ht ⊢
      rw [ho] at hA
      cases fu with
      | zero => exact absurd hA.1 (by omega)
      | succ f =>
      obtain ⟨z, A1, B2, TA1, TB2, A1', B2', rfl, g2, g3, g4, rfl, rfl⟩ := hA
      obtain ⟨_, ht⟩ := AtT.head (show AtT qs c (qw (wordT x) :: (qm 123 :: _)) from ht)
      obtain ⟨t1, ht⟩ := AtT.head ht
      have ht1 : AtT qs (c + 1 + 1) ((hdT x.k z ++ (opnT z ++ (TA1 ++ clsT z))) ++ (sepT x.k n ++ (TB2 ++ [qm 125]))) := by simpa [List.append_assoc] using ht
      obtain ⟨ta, tb⟩ := ht1.app
      simp only [List.length_cons, List.length_nil] at g3 g4
      rw [show c + (0 + 1 + 1) = c + 1 + 1 by omega] at g3 g4
      have hone := one_part (H f (by omega)) hk (cnt := 0) (by omega) g2 g3 ta
      simp only [List.length_append] at tb
      have e1 : c + 1 + 1 + ((hdT x.k z).length + ((opnT z).length + (TA1.length + (clsT z).length))) = c + 1 + 1 + (hdT x.k z).length + (opnT z).length + TA1.length + (clsT z).length := by omega
      rw [e1] at tb
      have hmore := more_part (d := d + 1) (F := f + 1) H hk f (by omega) n B2 _ 1 64 TB2 B2' ({ z with a := ((c + 1 + 1 : Nat) : Int) } :: A1') (by omega) (by omega) g4 tb
      rw [hb]
      simp only
      rw [if_neg (by omega)]
      unfold bodyP
      simp only
      rw [if_neg k9, if_neg (by omega), if_neg (by omega)]
      have hkids : ((1 + n : Nat) : Int) = x.kids := by omega
      rcases hk with hk | hk
      · rw [hk] at hone hmore
        simp only [if_pos] at hone hmore
        rw [if_pos hk]
        unfold partsP
        rw [txt_at t1, bnd_ok]
        rw [hone, bnd_ok]
        simp only
        rw [hmore, bnd_ok]
        simp only
        rw [hkids]
        obtain ⟨xk, xn, xnm, xlb, xtg, xkd, xa⟩ := x
        simp only at hnm n0 hk
        subst hnm n0 hk
        simp only [List.length_append, List.length_cons, List.length_nil, List.cons_append]
        congr 2
        omega
      · rw [hk] at hone hmore
        simp only [show ((8 : Int) = 7) = False by simp, if_false] at hone hmore
        rw [if_neg (by omega), if_pos hk]
        unfold partsP
        rw [txt_at t1, bnd_ok]
        rw [hone, bnd_ok]
        simp only
        rw [hmore, bnd_ok]
        simp only
        rw [hkids]
        obtain ⟨xk, xn, xnm, xlb, xtg, xkd, xa⟩ := x
        simp only at hnm n0 hk
        subst hnm n0 hk
        simp only [List.length_append, List.length_cons, List.length_nil, List.cons_append]
        congr 2
        omega
end
end Go.Proofs.YtafljgjkcnbhbaaDoor

/- A text that ends too early goes on: texts. -/
namespace Go.Proofs.YtafljgjkcnbhbaaDoor
set_option linter.unusedVariables false

theorem app_apps (t : Tk) (ts : List Tk) (R : Cu) : app t (apps ts R) = apps (t :: ts) R := by
  unfold app apps
  by_cases h0 : R.2.1 = 0
  · simp [h0]
  · simp [h0]
theorem cut_nl (l : List UInt8) (p : Nat) : (cut l p).2.1 = 0 → ∀ X, cut (l ++ 10 :: X) p = apps (cut l p).1 (cut X (p + l.length + 1)) := by
  have h10 : (10 : UInt8).toNat = 10 := rfl
  refine cut_ind (fun l p => (cut l p).2.1 = 0 → ∀ X, cut (l ++ 10 :: X) p = apps (cut l p).1 (cut X (p + l.length + 1))) ?_ ?_ ?_ ?_ ?_ ?_ l p
  · intro p _ X
    rw [List.nil_append, cut_blank X p (blank_10 h10), cut_nil, apps_nil]
    rfl
  · intro c r p hb ih h X
    rw [cut_blank r p hb] at h ⊢
    rw [List.cons_append, cut_blank _ p hb, ih h X, List.length_cons]
    congr 2; omega
  · intro c r p hs h2 h X
    rw [cut_end p hs h2, apps_nil, List.cons_append, cut_rem p hs h2 h10, List.length_cons]
    congr 1; omega
  · intro c r d s p hs h2 h3 ih h X
    rw [cut_rem p hs h2 h3] at h ⊢
    have e : c :: (r ++ d :: s) ++ 10 :: X = c :: (r ++ d :: (s ++ 10 :: X)) := by simp
    rw [e, cut_rem p hs h2 h3, ih h X]
    congr 2; simp; omega
  · intro c r p hb hs he h
    rw [cut_bad r p hb hs he] at h
    exact absurd h he
  · intro w s p hw ho ih h X
    rw [cut_word hw ho p] at h ⊢
    obtain ⟨h1, h2⟩ := app_ok h
    have ho2 : Off w (s ++ 10 :: X) := ho.app (by decide) X
    rw [List.append_assoc, cut_word hw ho2 p, ih h1 X, h2]
    have e : p + w.length + s.length + 1 = p + (w ++ s).length + 1 := by simp; omega
    rw [e]
    exact app_apps _ _ _
theorem cut_a (l : List UInt8) (p : Nat) : ∀ t ∈ (cut l p).1, t.a < p + l.length := by
  refine cut_ind (fun l p => ∀ t ∈ (cut l p).1, t.a < p + l.length) ?_ ?_ ?_ ?_ ?_ ?_ l p
  · intro p; simp [cut_nil]
  · intro c r p hb ih; rw [cut_blank r p hb]; intro t ht; have := ih t ht; simp; omega
  · intro c r p hs h2; rw [cut_end p hs h2]; simp
  · intro c r d s p hs h2 h3 ih; rw [cut_rem p hs h2 h3]; intro t ht; have := ih t ht; simp; omega
  · intro c r p hb hs he; rw [cut_bad r p hb hs he]; simp
  · intro w s p hw ho ih
    rw [cut_word hw ho p]
    have hp := hw.pos
    unfold app
    split
    · intro t ht
      simp only [List.mem_cons] at ht
      rcases ht with rfl | ht
      · rw [(tkW_is hw p).2.2.2.1]; simp; omega
      · have := ih t ht; simp; omega
    · intro t ht
      have := ih t ht; simp; omega
def mores : List (List UInt8) := [[59], [125], [62], [117, 56], [122, 122], [49], [61], [58], [44], [60], [123]]
theorem mores_tw (j : Nat) (hj : j < 11) : Tw (mores.getD j []) ∧ (∀ p, core (tkW (mores.getD j []) p) = toks.getD j q0) ∧ (mores.getD j []).length ≤ 2 := by
  have h : j = 0 ∨ j = 1 ∨ j = 2 ∨ j = 3 ∨ j = 4 ∨ j = 5 ∨ j = 6 ∨ j = 7 ∨ j = 8 ∨ j = 9 ∨ j = 10 := by omega
  rcases h with rfl | rfl | rfl | rfl | rfl | rfl | rfl | rfl | rfl | rfl | rfl
  all_goals exact ⟨⟨_, _, rfl, by decide, by decide, by decide⟩, fun p => rfl, by decide⟩
/-- The text with a line's end and a token more. -/
def nx (s : ByteArray) (j : Nat) : ByteArray := ⟨(s.data.toList ++ 10 :: mores.getD j []).toArray⟩
theorem nx_size (s : ByteArray) (j : Nat) : (nx s j).size = s.size + 1 + (mores.getD j []).length := by
  rw [Lib.size_eq, Lib.size_eq, nx]; simp; omega
theorem nx_cut {s : ByteArray} {j : Nat} (hj : j < 11) (hs : s.size ≤ 60000) (h : (cutT s).2.1 = 0) : cutT (nx s j) = ((cutT s).1 ++ [tkW (mores.getD j []) (s.size + 1)], 0, 0) := by
  obtain ⟨h1, h2, h3⟩ := mores_tw j hj
  have hn := nx_size s j
  unfold cutT at h ⊢
  rw [if_neg (by omega)] at h ⊢
  rw [if_neg (by omega)]
  have e : (nx s j).data.toList = s.data.toList ++ 10 :: mores.getD j [] := by simp [nx]
  rw [e, cut_nl _ 0 h, cut_alone h1]
  have e2 : 0 + s.data.toList.length + 1 = s.size + 1 := by rw [Lib.size_eq]; omega
  rw [e2]
  simp [apps]
def TE (s : ByteArray) (c : Nat) : Prop := (cutT s).2.1 = 0 ∧ Early ((cutT s).1.map core) c
theorem src_le {qs : List Q} {e : Nat × Nat} (h : srcP qs 257 [] 0 = .error e) : e.2 ≤ qs.length ∧ (e.1 = 5 ∨ e.1 = 60 ∨ e.1 = 61) := by
  obtain ⟨n, hn⟩ := src_err h
  obtain ⟨m, u, h1, h2⟩ := run_err n _ _ hn
  have hI := (run_inv m _ u inv0 h1).1
  have hk := stepQ_inv hI (q_lt hI.2.2.2)
  rw [← stepM_eq, h2] at hk
  exact ⟨by rw [hk.1]; exact hI.2.2.2, hk.2⟩
theorem plc_lt {s : ByteArray} (h : (cutT s).2.1 = 0) {k : Nat} (hk : k < (cutT s).1.length) : plc (cutT s).1 s.size k < s.size := by
  unfold plc tkAt
  rw [if_pos hk]
  have hm : (cutT s).1.getD k tk0 ∈ (cutT s).1 := by rw [List.getD_eq_getElem?_getD, List.getElem?_eq_getElem hk]; exact List.getElem_mem hk
  unfold cutT at h hm ⊢
  split at h
  · simp at h
  · rename_i hs
    rw [if_neg hs] at hm ⊢
    have := cut_a _ _ _ hm
    rw [← Lib.size_eq] at this
    omega
theorem te_of {s : ByteArray} (h : (prsT s).2 = (60, s.size)) : ∃ c, c ≤ 89 ∧ TE s c := by
  have hc : (cutT s).2.1 = 0 := by
    by_cases h0 : (cutT s).2.1 = 0
    · exact h0
    · rw [prs_bad h0] at h
      have h1 : (cutT s).2.1 = 60 := congrArg Prod.fst h
      unfold cutT at h1
      split at h1
      · simp at h1
      · have := (cut_form s.data.toList 0).1 (by rw [h1]; decide)
        omega
  cases hr : srcP ((cutT s).1.map core) 257 [] 0 with
  | ok D => rw [prs_ok hc hr] at h; cases h
  | error e =>
    rw [prs_err hc hr] at h
    obtain ⟨e1, e2⟩ := e
    have h1 : e1 = 60 := congrArg Prod.fst h
    have h2 : plc (cutT s).1 s.size e2 = s.size := congrArg Prod.snd h
    have h3 := (src_le hr).1
    rw [List.length_map] at h3
    have h4 : e2 = (cutT s).1.length := by
      rcases Nat.lt_or_ge e2 (cutT s).1.length with hl | hl
      · have := plc_lt hc hl; omega
      · have h5 : e2 ≤ (cutT s).1.length := h3
        omega
    subst h1 h4
    obtain ⟨c, hc1, hc2⟩ := Early.of (qs := (cutT s).1.map core) (by rw [hr, List.length_map])
    exact ⟨c, hc1, hc, hc2⟩
/-- One token more, in texts. -/
theorem te_on {s : ByteArray} {c : Nat} (h : TE s c) (hs : s.size ≤ 60000) : ∃ a, a < 11 ∧ (∀ j, j < a → (prsT (nx s j)).2 = (60, s.size + 1)) ∧
    ((prsT (nx s a)).2.1 = 0 ∨ (prsT (nx s a)).2.1 = 61 ∨ (prsT (nx s a)).2.1 = 5 ∨ ((prsT (nx s a)).2 = (60, (nx s a).size) ∧ ∃ c', c' < c ∧ TE (nx s a) c')) := by
  obtain ⟨a, ha, h1, h2⟩ := go_on h.2
  have hx : ∀ j, j < 11 → ((cutT (nx s j)).1.map core = (cutT s).1.map core ++ [toks.getD j q0] ∧ (cutT (nx s j)).2.1 = 0) := fun j hj => by
    rw [nx_cut hj hs h.1]
    exact ⟨by rw [List.map_append, List.map_cons, List.map_nil, (mores_tw j hj).2.1], rfl⟩
  refine ⟨a, ha, fun j hj => ?_, ?_⟩
  · have hj11 : j < 11 := by omega
    have e := h1 j hj
    rw [← (hx j hj11).1] at e
    rw [prs_err (hx j hj11).2 e]
    have : plc (cutT (nx s j)).1 (nx s j).size ((cutT s).1.map core).length = s.size + 1 := by
      rw [nx_cut hj11 hs h.1, List.length_map]
      unfold plc tkAt
      rw [if_pos (by simp)]
      have hk := (tkW_is (mores_tw j hj11).1 (s.size + 1)).2.2.2.1
      simpa [List.getD] using hk
    rw [this]
  · rw [← (hx a ha).1] at h2
    rcases h2 with ⟨D, hD⟩ | ⟨e, he, he2⟩ | ⟨he, c', hc1, hc2⟩
    · left; rw [prs_ok (hx a ha).2 hD]
    · rcases he2 with he2 | he2
      · right; right; left; rw [prs_err (hx a ha).2 he]; exact he2
      · right; left; rw [prs_err (hx a ha).2 he]; exact he2
    · right; right; right
      refine ⟨?_, c', hc1, (hx a ha).2, hc2⟩
      rw [prs_err (hx a ha).2 he]
      have : plc (cutT (nx s a)).1 (nx s a).size (((cutT s).1.map core).length + 1) = (nx s a).size := by
        rw [nx_cut ha hs h.1, List.length_map]
        unfold plc tkAt
        rw [if_neg (by simp)]
      rw [this]
end Go.Proofs.YtafljgjkcnbhbaaDoor

/- The document's Check: a node by itself. -/
namespace Go.Proofs.YtafljgjkcnbhbaaDoor
open Go.RowKit
set_option linter.unusedVariables false

theorem empty_of {s : ByteArray} (h : s.size = 0) : s = ⟨#[]⟩ := by
  apply ByteArray.ext
  exact Array.eq_empty_of_size_eq_zero h
def rightB (k n : Int) (nm : ByteArray) (kd : Int) : Bool := kindOk k n kd && nameOk nm (decide (k = 9))
set_option maxRecDepth 100000 in
set_option maxHeartbeats 4000000 in
theorem right_any (k n : Int) (nm lb : ByteArray) (tg kd at_ : Int) (w : World) : Calls Tryd.prog 48 #[.agg #[.int .i64 k, .int .i64 n, .string nm, .string lb, .int .i64 tg, .int .i64 kd, .int .i64 at_]] w fun e w' => e = .returned (.bool (rightB k n nm kd)) ∧ Below w.heap.size w w' := by
  have HB : Hid (∀ o, Below w.heap.size w (w.alloc o)) := hide_ (fun o => (Below.refl _ _).alloc (Nat.le_refl _) _)
  obtain ⟨K, hK⟩ : ∃ K, rightB k n nm kd = K := ⟨_, rfl⟩
  have HK := hide_ hK
  rw [hK]
  clear hK
  by_cases h9 : k = 9
  · subst h9
    have HK' : Hid (K = (decide (n = 0 ∧ kd = 0) && isName nm)) := hide_ HK.out.symm
    obtain ⟨b, hb⟩ : ∃ b, isName nm = b := ⟨_, rfl⟩
    rw [hb] at HK'
    rcases Nat.eq_zero_or_pos nm.size with h0 | h0
    · obtain rfl := empty_of h0
      have hb0 : b = false := by rw [← hb]; decide
      subst hb0
      go_enter Tryd.func48, Tryd.ntmps48
      go_wp2_with (go_at_call 30; refine (nameD_any _ _).mono ?_; rintro e w' ⟨rfl, rfl⟩; rw [hb])
      go_ret
      exact ⟨by rw [HK'.out]; simp, HB.out _⟩
    · obtain ⟨n0, n1⟩ := name_ne h0
      cases b <;> by_cases k0 : kd = 0 <;> by_cases m0 : n = 0 <;> (
        go_enter Tryd.func48, Tryd.ntmps48
        go_wp2_with (go_at_call 30; refine (nameD_any _ _).mono ?_; rintro e w' ⟨rfl, rfl⟩; rw [hb])
        go_ret
        exact ⟨by rw [HK'.out]; first | (simp [*]; done) | (simp [*]; rfl), HB.out _⟩)
  rcases Nat.eq_zero_or_pos nm.size with h0 | h0
  case inr =>
    obtain ⟨n0, n1⟩ := name_ne h0
    have HK' : Hid (K = false) := hide_ (by rw [← HK.out]; unfold rightB; rw [decide_eq_false h9]; simp only [nameOk, cond_false]; rw [decide_eq_false (by omega), Bool.and_false])
    clear HK
    by_cases h1 : k = 1
    · subst h1
      go_enter Tryd.func48, Tryd.ntmps48
      go_wp2
      go_ret
      exact ⟨by rw [HK'.out]; rfl, HB.out _⟩
    by_cases h2 : k = 2
    · subst h2
      go_enter Tryd.func48, Tryd.ntmps48
      go_wp2
      go_ret
      exact ⟨by rw [HK'.out]; rfl, HB.out _⟩
    by_cases h3 : k = 3
    · subst h3
      go_enter Tryd.func48, Tryd.ntmps48
      go_wp2
      go_ret
      exact ⟨by rw [HK'.out]; rfl, HB.out _⟩
    by_cases h4 : k = 4
    · subst h4
      go_enter Tryd.func48, Tryd.ntmps48
      go_wp2
      go_ret
      exact ⟨by rw [HK'.out]; rfl, HB.out _⟩
    by_cases h5 : k = 5
    · subst h5
      go_enter Tryd.func48, Tryd.ntmps48
      go_wp2
      go_ret
      exact ⟨by rw [HK'.out]; rfl, HB.out _⟩
    by_cases h6 : k = 6
    · subst h6
      go_enter Tryd.func48, Tryd.ntmps48
      go_wp2
      go_ret
      exact ⟨by rw [HK'.out]; rfl, HB.out _⟩
    by_cases h7 : k = 7
    · subst h7
      go_enter Tryd.func48, Tryd.ntmps48
      go_wp2
      go_ret
      exact ⟨by rw [HK'.out]; rfl, HB.out _⟩
    by_cases h8 : k = 8
    · subst h8
      go_enter Tryd.func48, Tryd.ntmps48
      go_wp2
      go_ret
      exact ⟨by rw [HK'.out]; rfl, HB.out _⟩
    go_enter Tryd.func48, Tryd.ntmps48
    go_wp2
    go_ret
    exact ⟨by rw [HK'.out]; rfl, HB.out _⟩
  obtain rfl := empty_of h0
  have HK2 : Hid (K = kindOk k n kd) := hide_ (by rw [← HK.out]; unfold rightB; rw [decide_eq_false h9]; simp only [nameOk, cond_false]; rw [decide_eq_true h0, Bool.and_true])
  clear HK h0
  by_cases h1 : k = 1
  · subst h1
    have HK' : Hid (K = decide ((n = 1 ∨ n = 2 ∨ n = 4 ∨ n = 8) ∧ kd = 0)) := hide_ HK2.out
    by_cases k0 : kd = 0 <;> by_cases n1 : n = 1 <;> by_cases n2 : n = 2 <;> by_cases n4 : n = 4 <;> by_cases n8 : n = 8 <;> first | omega | (
      go_enter Tryd.func48, Tryd.ntmps48
      go_wp2
      go_ret
      exact ⟨by rw [HK'.out]; first | (simp [*]; done) | (simp [*]; rfl), HB.out _⟩)
  by_cases h2 : k = 2 ∨ k = 3 ∨ k = 9
  · have HK' : Hid (K = decide (n = 0 ∧ kd = 0)) := hide_ (by rw [HK2.out]; unfold kindOk; rw [if_neg h1, if_pos h2])
    have h2' : k = 2 ∨ k = 3 := by omega
    rcases h2' with rfl | rfl <;> by_cases k0 : kd = 0 <;> by_cases n1 : n = 0 <;> (
      go_enter Tryd.func48, Tryd.ntmps48
      go_wp2
      go_ret
      exact ⟨by rw [HK'.out]; first | (simp [*]; done) | (simp [*]; rfl), HB.out _⟩)
  by_cases h3 : k = 4 ∨ k = 5
  · have HK' : Hid (K = ((decide (0 ≤ n) && decide (n ≤ 2147483647)) && decide (kd = 1))) := hide_ (by rw [HK2.out]; unfold kindOk; rw [if_neg h1, if_neg h2, if_pos h3, numB, Bool.decide_and])
    rcases h3 with rfl | rfl <;> by_cases k0 : kd = 1 <;> rcases Bool.eq_false_or_eq_true (decide (0 ≤ n)) with m0 | m0 <;> rcases Bool.eq_false_or_eq_true (decide (n ≤ 2147483647)) with m1 | m1 <;> (
      go_enter Tryd.func48, Tryd.ntmps48
      go_wp2
      go_ret
      exact ⟨by rw [HK'.out, m0, m1]; first | (simp [k0]; done) | (simp [k0]; rfl), HB.out _⟩)
  by_cases h4 : k = 6
  · have HK' : Hid (K = decide (n = 0 ∧ kd = 1)) := hide_ (by rw [HK2.out]; unfold kindOk; rw [if_neg h1, if_neg h2, if_neg h3, if_pos h4])
    subst h4
    by_cases k0 : kd = 1 <;> by_cases n1 : n = 0 <;> (
      go_enter Tryd.func48, Tryd.ntmps48
      go_wp2
      go_ret
      exact ⟨by rw [HK'.out]; first | (simp [*]; done) | (simp [*]; rfl), HB.out _⟩)
  by_cases h5 : k = 7 ∨ k = 8
  · have HK' : Hid (K = decide (n = 0 ∧ 1 ≤ kd)) := hide_ (by rw [HK2.out]; unfold kindOk; rw [if_neg h1, if_neg h2, if_neg h3, if_neg h4, if_pos h5]; congr 1)
    rcases h5 with rfl | rfl <;> by_cases k0 : 1 ≤ kd <;> by_cases n1 : n = 0 <;> (
      go_enter Tryd.func48, Tryd.ntmps48
      go_wp2
      go_ret
      exact ⟨by rw [HK'.out]; first | (simp [*]; done) | (simp [*]; rfl), HB.out _⟩)
  have HK' : Hid (K = false) := hide_ (by rw [HK2.out]; unfold kindOk; rw [if_neg h1, if_neg h2, if_neg h3, if_neg h4, if_neg h5])
  have j2 : ¬ k = 2 := fun h => h2 (.inl h)
  have j3 : ¬ k = 3 := fun h => h2 (.inr (.inl h))
  have j4 : ¬ k = 4 := fun h => h3 (.inl h)
  have j5 : ¬ k = 5 := fun h => h3 (.inr h)
  have j7 : ¬ k = 7 := fun h => h5 (.inl h)
  have j8 : ¬ k = 8 := fun h => h5 (.inr h)
  clear h2 h3 h5
  go_enter Tryd.func48, Tryd.ntmps48
  go_wp2
  go_ret
  exact ⟨by rw [HK'.out]; rfl, HB.out _⟩
def tagB (tg of : Int) : Bool := if of = 7 then numB tg else decide (tg = 0)
def placedB (lb : ByteArray) (tg of : Int) : Bool := nameOk lb (decide (of = 8)) && tagB tg of
set_option maxRecDepth 100000 in
set_option maxHeartbeats 4000000 in
theorem placed_any (k n : Int) (nm lb : ByteArray) (tg kd at_ of : Int) (w : World) : Calls Tryd.prog 49 #[.agg #[.int .i64 k, .int .i64 n, .string nm, .string lb, .int .i64 tg, .int .i64 kd, .int .i64 at_], .int .i64 of] w fun e w' => e = .returned (.bool (placedB lb tg of)) ∧ Below w.heap.size w w' := by
  have HB : Hid (∀ o, Below w.heap.size w (w.alloc o)) := hide_ (fun o => (Below.refl _ _).alloc (Nat.le_refl _) _)
  obtain ⟨K, hK⟩ : ∃ K, placedB lb tg of = K := ⟨_, rfl⟩
  have HK := hide_ hK
  rw [hK]
  clear hK
  obtain ⟨b, hb⟩ : ∃ b, isName lb = b := ⟨_, rfl⟩
  have HL : Hid (∃ z : Bool, decide (lb.size = 0) = z ∧ ((lb = ⟨#[]⟩ ∧ z = true) ∨ ((lb.toList == []) = false ∧ lb.toList.isEmpty = false ∧ z = false))) := hide_ (by
    rcases Nat.eq_zero_or_pos lb.size with h0 | h0
    · exact ⟨true, decide_eq_true h0, .inl ⟨empty_of h0, rfl⟩⟩
    · obtain ⟨n0, n1⟩ := name_ne h0
      exact ⟨false, decide_eq_false (by omega), .inr ⟨n0, n1, rfl⟩⟩)
  obtain ⟨z, hz, hzz⟩ := HL.out
  clear HL
  have HK' : Hid (K = ((bif decide (of = 8) then b else z) && (if of = 7 then decide (0 ≤ tg ∧ tg ≤ 2147483647) else decide (tg = 0)))) := hide_ (by rw [← HK.out]; unfold placedB nameOk tagB numB; rw [hb, hz])
  clear HK hz
  cases b <;> rcases hzz with ⟨rfl, rfl⟩ | ⟨n0, n1, rfl⟩ <;> by_cases h8 : of = 8 <;> by_cases h7 : of = 7 <;> by_cases t0 : tg = 0 <;> by_cases t1 : 0 ≤ tg <;> by_cases t2 : tg ≤ 2147483647 <;> first | omega | (
    go_enter Tryd.func49, Tryd.ntmps49
    go_wp2_with (go_at_call 30; refine (nameD_any _ _).mono ?_; rintro e w' ⟨rfl, rfl⟩; rw [hb])
    all_goals go_ret
    all_goals exact ⟨by rw [HK'.out]; first | (simp [*]; done) | (simp [*]; rfl), HB.out _⟩)
theorem err_same (k n : Int) (nm lb : ByteArray) (tg kd of : Int) (dp : Nat) (h1 : ¬ 16 < dp) (h2 : ¬ ((k = 8 ∨ k = 7) ∧ 64 < kd)) : nodeE k n nm lb tg kd of dp = if rightB k n nm kd && placedB lb tg of then 0 else 62 := by
  unfold nodeE rightB placedB tagB
  rw [if_neg h1, if_neg h2]
  cases kindOk k n kd with
  | false => simp
  | true =>
    cases nameOk nm (decide (k = 9)) with
    | false => simp
    | true =>
      cases nameOk lb (decide (of = 8)) with
      | false => simp
      | true =>
        by_cases h7 : of = 7
        · by_cases t0 : tg = 0
          · subst t0; simp [h7]; decide
          · cases numB tg <;> simp [h7, t0]
        · by_cases t0 : tg = 0 <;> simp [h7, t0]
end Go.Proofs.YtafljgjkcnbhbaaDoor

/- The document's Check: a type expression. -/
namespace Go.Proofs.YtafljgjkcnbhbaaDoor
open Go.RowKit
set_option linter.unusedVariables false

/-- The stack in a block of its own: what lies above it is whatever it was. -/
def StD (w : World) (g cap : Nat) (L : List (Int × Int)) (ys : List Value) : Prop := Blk w g 87 ys ∧ ys.length = cap * 2 ∧ L.length ≤ cap ∧ cap ≤ maxLen ∧ ys.take (L.length * 2) = cellsP L
theorem StD.own {w : World} {B g cap : Nat} {L : List (Int × Int)} {ys : List Value} (h : StD w g cap L ys) (hb : B ≤ g) : w.ownsRow B 87 2 (.slice (some ⟨g, 0, none⟩) L.length cap) L.length (cellsP L) := by
  have k := ownS_of_blk (n := L.length) (B := B) h.1 hb h.2.1 h.2.2.1 h.2.2.2.1
  rw [h.2.2.2.2] at k
  exact k
theorem StD.of_own {w : World} {B g cap : Nat} {L : List (Int × Int)} (h : w.ownsRow B 87 2 (.slice (some ⟨g, 0, none⟩) L.length cap) L.length (cellsP L)) (h0 : 0 < L.length) : B ≤ g ∧ ∃ ys, StD w g cap L ys := by
  obtain ⟨g', cap', ys, hv, hb, hn, hm, hl, ht, hK⟩ := ownS_blk h h0
  injection hv with e1 e2 e3
  injection e1 with e1
  injection e1 with e1
  subst e1 e3
  exact ⟨hb, ys, hK, hl, hn, hm, ht⟩
theorem StD.cut {w : World} {g cap : Nat} {L : List (Int × Int)} {p : Int × Int} {ys : List Value} (h : StD w g cap (L ++ [p]) ys) : StD w g cap L ys := by
  obtain ⟨h1, h2, h3, h4, h5⟩ := h
  refine ⟨h1, h2, by simp at h3; omega, h4, ?_⟩
  have := congrArg (List.take (L.length * 2)) h5
  rw [List.take_take, cellsP_app, List.take_append_of_le_length (by rw [cellsP_len]; exact Nat.le_refl _), List.take_of_length_le (l := cellsP L) (by rw [cellsP_len]; exact Nat.le_refl _)] at this
  rw [← this]
  congr 1
  simp
theorem StD.top {w : World} {g cap : Nat} {L : List (Int × Int)} {p : Int × Int} {ys : List Value} (h : StD w g cap (L ++ [p]) ys) : w.cell? ⟨g, L.length * 2, none⟩ = some (.int .i64 p.1) ∧ w.cell? ⟨g, L.length * 2 + 1, none⟩ = some (.int .i64 p.2) := by
  obtain ⟨h1, h2, h3, h4, h5⟩ := h
  have e : ∀ j, j < 2 → ys[L.length * 2 + j]? = (prc p)[j]? := fun j hj => by
    have : ys[L.length * 2 + j]? = (ys.take ((L ++ [p]).length * 2))[L.length * 2 + j]? := by rw [List.getElem?_take, if_pos (by simp; omega)]
    rw [this, h5, cellsP_app, List.getElem?_append_right (by rw [cellsP_len]; omega), cellsP_len]
    have e : L.length * 2 + j - L.length * 2 = j := by omega
    rw [e]
    simp [cellsP]
  have h0 := e 0 (by decide)
  have h1' := e 1 (by decide)
  simp [prc] at h0 h1'
  exact ⟨by rw [h1.cell]; exact h0, by rw [h1.cell]; exact h1'⟩
theorem StD.later {w w' : World} {g cap : Nat} {L : List (Int × Int)} {ys : List Value} (h : StD w g cap L ys) (hB : Below w.heap.size w w') : StD w' g cap L ys := ⟨h.1.later hB, h.2⟩
theorem StD.dec {w : World} {g cap : Nat} {L : List (Int × Int)} {p : Int × Int} {ys : List Value} (h : StD w g cap (L ++ [p]) ys) (q : Int) :
    StD (w.setCell ⟨g, L.length * 2 + 1, none⟩ (.int .i64 q)) g cap (L ++ [(p.1, q)]) (ys.set (L.length * 2 + 1) (.int .i64 q)) := by
  obtain ⟨h1, h2, h3, h4, h5⟩ := h
  refine ⟨h1.set _ _, by simpa using h2, by simpa using h3, h4, ?_⟩
  have e : (L ++ [(p.1, q)]).length = (L ++ [p]).length := by simp
  rw [e, List.take_set, h5, cellsP_app, cellsP_app, List.set_append_right _ _ (by rw [cellsP_len]; omega), cellsP_len]
  have e2 : L.length * 2 + 1 - L.length * 2 = 1 := by omega
  rw [e2]
  rfl
theorem bldO (a b : Int) (w : World) : (Instr.build 87 #[(0, .int .i64 a), (1, .int .i64 b)]).run Tryd.prog w = .ok (.agg #[.int .i64 a, .int .i64 b]) w := by kernel_rfl
set_option maxRecDepth 100000 in
set_option maxHeartbeats 8000000 in
theorem nodes_any (va : Option Addr) (vc : Nat) (N : List Nd) (w : World) (hN : N.length ≤ 9223372036854775806) (hr : Hid (NRow w va N)) :
    Calls Tryd.prog 31 #[.slice va N.length vc] w fun e w' => e = .returned (.tuple #[.int .i64 (ct N 0 [(0, 1)]).1, .int .i64 (ct N 0 [(0, 1)]).2]) ∧ Below w.heap.size w w' := by
  obtain ⟨R, hR⟩ : ∃ R, ct N 0 [(0, 1)] = R := ⟨_, rfl⟩
  have HR := hide_ hR
  rw [hR]
  clear hR
  have hb2 := bldO
  have hk0 := Blk.newA w #[.int .i64 0, .int .i64 1] 87
  have HS0 : Hid (StD (w.alloc (.cells #[.int .i64 0, .int .i64 1] 87)) w.heap.size 1 [(0, 1)] [.int .i64 0, .int .i64 1]) := ⟨hk0, rfl, Nat.le_refl _, by decide, rfl⟩
  have HB0 : Hid (Below w.heap.size w (w.alloc (.cells #[.int .i64 0, .int .i64 1] 87))) := (Below.refl _ _).alloc (Nat.le_refl _) _
  clear hk0
  go_enter Tryd.func31, Tryd.ntmps31
  go_wp2_with fail
  go_loopw [4, 5] (fun x4 x5 wr => ∃ (i : Nat) (M : List (Int × Int)) (g cap : Nat) (ys : List Value), i ≤ N.length ∧ x4 = .slice (some ⟨g, 0, none⟩) M.length cap ∧ x5 = .int .i64 (i : Int) ∧ w.heap.size ≤ g ∧ M.length ≤ 18 ∧ Hid (∀ p ∈ M, 0 ≤ p.2 ∧ p.2 ≤ 64) ∧ Hid (StD wr g cap M ys) ∧ Hid (ct (N.drop i) i (wo M) = R) ∧ Hid (Below w.heap.size w wr)) (fun _ x5 _ => N.length + 1 - (intOf x5).toNat)
  case atStart => exact ⟨0, [(0, 1)], w.heap.size, 1, _, Nat.zero_le _, rfl, rfl, Nat.le_refl _, by decide, hide_ (fun p hp => by simp at hp; subst hp; decide), HS0, HR, HB0⟩
  case round =>
    obtain ⟨i, M, g, cap, ys, hi, rfl, rfl, hg, hM18, HO, HS, HC, HB⟩ := hrel
    generalize wr = wq at *
    clear HS0 HB0 HR
    have hcap : cap ≤ 9223372036854775807 := by have := HS.out.2.2.2.1; unfold maxLen at this; omega
    go_wp2_with fail
    go_loopw [4] (fun x4 wr => ∃ M2 : List (Int × Int), x4 = .slice (some ⟨g, 0, none⟩) M2.length cap ∧ M2.length ≤ 18 ∧ Hid (∀ p ∈ M2, 0 ≤ p.2 ∧ p.2 ≤ 64) ∧ Hid (StD wq g cap M2 ys) ∧ Hid (wo M2 = wo M) ∧ wq = wr) (fun x4 _ => match x4 with | .slice _ n _ => n | _ => 0)
    case atStart => exact ⟨M, rfl, hM18, HO, HS, hide_ rfl, rfl⟩
    case round =>
      obtain ⟨M2, rfl, hM218, HO2, HS2, HW, rfl⟩ := hrel
      have hMc : M2.length ≤ cap := HS2.out.2.2.1
      rcases List.eq_nil_or_concat M2 with rfl | ⟨L, p, hM⟩
      · have HC2 : Hid (ct (N.drop i) i [] = R) := hide_ (by rw [← HC.out, ← HW.out]; rfl)
        simp only [List.length_nil]
        by_cases hlt : i < N.length
        · have hne : ((i : Int) == N.length) = false := by
            have : (i : Int) ≠ N.length := by omega
            simpa using this
          have HV : Hid (R = ((i : Int), 62)) := hide_ (by rw [← HC2.out, List.drop_eq_getElem_cons hlt]; rfl)
          go_wp2
          go_ret2
          exact ⟨by rw [HV.out]; rfl, HB.out⟩
        · obtain rfl : i = N.length := by omega
          have HV : Hid (R = (0, 0)) := hide_ (by rw [← HC2.out, List.drop_length]; rfl)
          go_wp2
          go_ret2
          exact ⟨by rw [HV.out]; rfl, HB.out⟩
      · rw [List.concat_eq_append] at hM
        subst hM
        obtain ⟨t1, t2⟩ := HS2.out.top
        have hlen : (L ++ [p]).length = L.length + 1 := by simp
        rw [hlen] at hMc hM218 ⊢
        clear hlen
        have ha : (0 : Int) < (L.length : Int) + 1 := by omega
        by_cases hp : p.2 = 0
        · have HS3 := hide_ (HS2.out.cut)
          have HW2 : Hid (wo L = wo M) := hide_ (by rw [← HW.out, wo_zero _ _ hp])
          have HO3 : Hid (∀ q ∈ L, 0 ≤ q.2 ∧ q.2 ≤ 64) := hide_ (fun q hq => HO2.out q (by simp [hq]))
          rw [hp] at t2
          go_wp2
          go_roundw
          case rel => exact ⟨L, rfl, by omega, HO3, HS3, HW2, trivial⟩
          case measure => simp
        have hp' : (p.2 == 0) = false := by simpa using hp
        have HC2 : Hid (ct (N.drop i) i (L ++ [p]) = R) := hide_ (by rw [← HC.out, ← HW.out, wo_more _ _ hp])
        have ha' : ((L.length : Int) + 1 == 0) = false := by
          have : (L.length : Int) + 1 ≠ 0 := by omega
          simpa using this
        by_cases hlt : i < N.length
        case neg =>
          obtain rfl : i = N.length := by omega
          have HV : Hid (R = ((N.length : Int), 62)) := hide_ (by rw [← HC2.out, List.drop_length]; unfold ct; rw [if_neg (by simp)])
          go_wp2
          go_ret2
          exact ⟨by rw [HV.out]; rfl, HB.out⟩
        have hlt' : (i : Int) < N.length := by omega
        have hne : ((i : Int) == N.length) = false := by
          have : (i : Int) ≠ N.length := by omega
          simpa using this
        obtain ⟨b, o, rfl, hb, hc⟩ := (hr.out.later HB.out).open (by omega)
        have hx : N[i]? = some (N[i]'hlt) := List.getElem?_eq_getElem hlt
        have hcx := hc i _ hx
        have hdr : N.drop i = N[i]'hlt :: N.drop (i + 1) := List.drop_eq_getElem_cons hlt
        generalize N[i]'hlt = x at *
        rw [hdr] at HC2
        have i0 := hcx 0 (by decide); have i1 := hcx 1 (by decide); have i2 := hcx 2 (by decide); have i3 := hcx 3 (by decide); have i4 := hcx 4 (by decide); have i5 := hcx 5 (by decide); have i6 := hcx 6 (by decide)
        simp [ndc] at i0 i1 i2 i3 i4 i5 i6
        have HT : Hid (ctE (L ++ [p]) x = nodeE x.k x.n x.name x.label x.tag x.kids p.1 L.length) := hide_ (by unfold ctE ndE; simp)
        have HT2 : Hid (ctS (L ++ [p]) x = wo (L ++ [(p.1, p.2 - 1), (x.k, x.kids)])) := hide_ (by unfold ctS; simp)
        have kx := Blk.newA wq #[.int .i64 x.k, .int .i64 x.n, .string x.name, .string x.label, .int .i64 x.tag, .int .i64 x.kids, .int .i64 x.a] 38
        have hBx : Below wq.heap.size wq (wq.alloc (.cells #[.int .i64 x.k, .int .i64 x.n, .string x.name, .string x.label, .int .i64 x.tag, .int .i64 x.kids, .int .i64 x.a] 38)) := (Below.refl _ _).alloc (Nat.le_refl _) _
        obtain ⟨wx, hwx⟩ : ∃ wx, wx = wq.alloc (.cells #[.int .i64 x.k, .int .i64 x.n, .string x.name, .string x.label, .int .i64 x.tag, .int .i64 x.kids, .int .i64 x.a] 38) := ⟨_, rfl⟩
        rw [← hwx] at kx hBx
        have KX := hide_ kx
        have HSx := hide_ (HS2.out.later hBx)
        have HBx := hide_ (below_to HB.out hBx)
        have hgq : g < wq.heap.size := HS2.out.1.lt
        clear kx hBx hc hx hcx hdr HC HW
        go_upto_region 11 with fail
        rw [← hwx]
        clear hwx i0 i1 i2 i3 i4 i5 i6 t1 t2
        have x0 := KX.out.cell 0; have x5 := KX.out.cell 5
        simp at x0 x5
        by_cases hd : 16 < L.length
        · have hd' : (16 : Int) < L.length := by omega
          have HV : Hid (R = ((i : Int), 61)) := hide_ (by rw [← HC2.out]; unfold ct; rw [HT.out]; unfold nodeE; rw [if_pos hd]; rfl)
          go_wp2
          go_ret2
          exact ⟨by rw [HV.out]; rfl, HBx.out⟩
        have hd' : ¬ (16 : Int) < L.length := by omega
        by_cases hm : (x.k = 8 ∨ x.k = 7) ∧ 64 < x.kids
        · have HV : Hid (R = ((i : Int), 5)) := hide_ (by rw [← HC2.out]; unfold ct; rw [HT.out]; unfold nodeE; rw [if_neg hd, if_pos hm]; rfl)
          obtain ⟨hk, hkd⟩ := hm
          rcases hk with hk | hk
          · rw [hk] at x0
            go_wp2
            go_ret2
            exact ⟨by rw [HV.out]; rfl, HBx.out⟩
          · rw [hk] at x0
            go_wp2
            go_ret2
            exact ⟨by rw [HV.out]; rfl, HBx.out⟩
        obtain ⟨b1, hb1⟩ : ∃ b1, rightB x.k x.n x.name x.kids = b1 := ⟨_, rfl⟩
        obtain ⟨b2, hb2p⟩ : ∃ b2, placedB x.label x.tag p.1 = b2 := ⟨_, rfl⟩
        have HE : Hid (nodeE x.k x.n x.name x.label x.tag x.kids p.1 L.length = if b1 && b2 then 0 else 62) := hide_ (by rw [err_same _ _ _ _ _ _ _ _ hd hm, hb1, hb2p])
        have HC1 : Hid (∀ w', Calls Tryd.prog 48 #[.agg #[.int .i64 x.k, .int .i64 x.n, .string x.name, .string x.label, .int .i64 x.tag, .int .i64 x.kids, .int .i64 x.a]] w' fun e w'' => e = .returned (.bool b1) ∧ Below w'.heap.size w' w'') := hide_ (fun w' => by
          have h := right_any x.k x.n x.name x.label x.tag x.kids x.a w'
          rw [hb1] at h
          exact h)
        have HC3 : Hid (∀ w', Calls Tryd.prog 49 #[.agg #[.int .i64 x.k, .int .i64 x.n, .string x.name, .string x.label, .int .i64 x.tag, .int .i64 x.kids, .int .i64 x.a], .int .i64 p.1] w' fun e w'' => e = .returned (.bool b2) ∧ Below w'.heap.size w' w'') := hide_ (fun w' => by
          have h := placed_any x.k x.n x.name x.label x.tag x.kids x.a p.1 w'
          rw [hb2p] at h
          exact h)
        have HSS : Hid (∀ w', Below wx.heap.size wx w' → Below wx.heap.size wx w' ∧ w'.cell? ⟨wq.heap.size, 0, none⟩ = some (.int .i64 x.k) ∧ w'.cell? ⟨wq.heap.size, 1, none⟩ = some (.int .i64 x.n) ∧ w'.cell? ⟨wq.heap.size, 2, none⟩ = some (.string x.name) ∧ w'.cell? ⟨wq.heap.size, 3, none⟩ = some (.string x.label) ∧ w'.cell? ⟨wq.heap.size, 4, none⟩ = some (.int .i64 x.tag) ∧ w'.cell? ⟨wq.heap.size, 5, none⟩ = some (.int .i64 x.kids) ∧ w'.cell? ⟨wq.heap.size, 6, none⟩ = some (.int .i64 x.a) ∧ w'.cell? ⟨g, L.length * 2, none⟩ = some (.int .i64 p.1)) := hide_ (fun w' hB => by
          have h := KX.out.later hB
          exact ⟨hB, h.cell 0, h.cell 1, h.cell 2, h.cell 3, h.cell 4, h.cell 5, h.cell 6, (HSx.out.later hB).top.1⟩)
        clear hb1 hb2p
        go_upto_region 14 with fail
        go_cut [60] from 60 to 68 (fun x60 wc => x60 = .bool false ∧ wx = wc)
        case first =>
          by_cases h8 : x.k = 8
          · have hk6 : ¬ 64 < x.kids := fun h => hm ⟨.inl h8, h⟩
            have hk6' : decide (64 < x.kids) = false := decide_eq_false hk6
            rw [h8] at x0
            clear h8
            go_wp2
            go_meet
            case rel => exact ⟨by simp, rfl⟩
          · have h8' : (x.k == 8) = false := by simpa using h8
            go_wp2
            go_meet
            case rel => exact ⟨by simp, rfl⟩
        case rest =>
        obtain ⟨rfl, rfl⟩ := hcut
        go_upto_region 15 with fail
        go_cut [60] from 60 to 76 (fun x60 wc => x60 = .bool false ∧ wx = wc)
        case first =>
          by_cases h8 : x.k = 7
          · have hk6 : ¬ 64 < x.kids := fun h => hm ⟨.inr h8, h⟩
            have hk6' : decide (64 < x.kids) = false := decide_eq_false hk6
            rw [h8] at x0
            clear h8
            go_wp2
            go_meet
            case rel => exact ⟨by simp, rfl⟩
          · have h8' : (x.k == 7) = false := by simpa using h8
            go_wp2
            go_meet
            case rel => exact ⟨by simp, rfl⟩
        case rest =>
        obtain ⟨rfl, rfl⟩ := hcut
        clear x0 x5
        have hLi : (L.length : Int) < (L.length : Int) + 1 := by omega
        cases b1 with
        | false =>
          have HV : Hid (R = ((i : Int), 62)) := hide_ (by rw [← HC2.out]; unfold ct; rw [HT.out, HE.out]; rfl)
          have y0 := KX.out.cell 0; have y1 := KX.out.cell 1; have y2 := KX.out.cell 2; have y3 := KX.out.cell 3; have y4 := KX.out.cell 4; have y5 := KX.out.cell 5; have y6 := KX.out.cell 6
          simp at y0 y1 y2 y3 y4 y5 y6
          go_wp2_with fail
          first
          | (go_region_with (go_at_call 48; refine (HC1.out _).mono ?_; rintro e w2 ⟨rfl, hB2⟩; (have G2 := HSS.out w2 (below_to ((Below.refl _ _).drew) hB2)); (clear hB2)))
          | fail
          all_goals
            have HBf := hide_ (below_to HBx.out G2.1)
            clear G2
            go_wp2
            go_ret2
            exact ⟨by rw [HV.out]; rfl, HBf.out⟩
        | true =>
        cases b2 with
        | false =>
          have HV : Hid (R = ((i : Int), 62)) := hide_ (by rw [← HC2.out]; unfold ct; rw [HT.out, HE.out]; rfl)
          go_wp2_with fail
          go_region_held_law (fun w' => Below wx.heap.size wx w' ∧ w'.cell? ⟨wq.heap.size, 0, none⟩ = some (.int .i64 x.k) ∧ w'.cell? ⟨wq.heap.size, 1, none⟩ = some (.int .i64 x.n) ∧ w'.cell? ⟨wq.heap.size, 2, none⟩ = some (.string x.name) ∧ w'.cell? ⟨wq.heap.size, 3, none⟩ = some (.string x.label) ∧ w'.cell? ⟨wq.heap.size, 4, none⟩ = some (.int .i64 x.tag) ∧ w'.cell? ⟨wq.heap.size, 5, none⟩ = some (.int .i64 x.kids) ∧ w'.cell? ⟨wq.heap.size, 6, none⟩ = some (.int .i64 x.a) ∧ w'.cell? ⟨g, L.length * 2, none⟩ = some (.int .i64 p.1)) (first | assumption | exact HSS.out _ ((Below.refl _ _).drew) | exact HSS.out _ (Below.refl _ _))
            (first
              | (go_at_call 48; refine (HC1.out _).mono ?_; rintro e w2 ⟨rfl, hB2⟩; (have G2 := HSS.out w2 (below_to (by first | assumption | exact And.left (by assumption)) hB2)); (clear hB2))
              | (go_at_call 49; refine (HC3.out _).mono ?_; rintro e w3 ⟨rfl, hB3⟩; (have G3 := HSS.out w3 (below_to (by first | assumption | exact And.left (by assumption)) hB3)); (clear hB3)))
          have HBf := hide_ (below_to HBx.out G3.1)
          clear G2 G3 HSS
          go_wp2
          go_ret2
          exact ⟨by rw [HV.out]; rfl, HBf.out⟩
        | true =>
        go_wp2_with fail
        go_region_held_law (fun w' => Below wx.heap.size wx w' ∧ w'.cell? ⟨wq.heap.size, 0, none⟩ = some (.int .i64 x.k) ∧ w'.cell? ⟨wq.heap.size, 1, none⟩ = some (.int .i64 x.n) ∧ w'.cell? ⟨wq.heap.size, 2, none⟩ = some (.string x.name) ∧ w'.cell? ⟨wq.heap.size, 3, none⟩ = some (.string x.label) ∧ w'.cell? ⟨wq.heap.size, 4, none⟩ = some (.int .i64 x.tag) ∧ w'.cell? ⟨wq.heap.size, 5, none⟩ = some (.int .i64 x.kids) ∧ w'.cell? ⟨wq.heap.size, 6, none⟩ = some (.int .i64 x.a) ∧ w'.cell? ⟨g, L.length * 2, none⟩ = some (.int .i64 p.1)) (first | assumption | exact HSS.out _ ((Below.refl _ _).drew) | exact HSS.out _ (Below.refl _ _))
          (first
            | (go_at_call 48; refine (HC1.out _).mono ?_; rintro e w2 ⟨rfl, hB2⟩; (have G2 := HSS.out w2 (below_to (by first | assumption | exact And.left (by assumption)) hB2)); (clear hB2))
            | (go_at_call 49; refine (HC3.out _).mono ?_; rintro e w3 ⟨rfl, hB3⟩; (have G3 := HSS.out w3 (below_to (by first | assumption | exact And.left (by assumption)) hB3)); (clear hB3)))
        have hB3 := G3.1
        have HS3 := hide_ (HSx.out.later hB3)
        have HK3 := hide_ (KX.out.later hB3)
        have HB3 := hide_ (below_to HBx.out hB3)
        clear hB3 G2 G3 HSS HC1 HC3 KX HSx HBx HB hb hr HS HS2
        have hkid := ndE_kids (x := x) (of := p.1) (dp := L.length) HE.out
        have hp2 := HO2.out p (by simp)
        have HM : Hid (∀ q ∈ L, 0 ≤ q.2 ∧ q.2 ≤ 64) := hide_ (fun q hq => HO2.out q (by simp [hq]))
        have HC5 : Hid (ct (N.drop (i + 1)) (i + 1) (wo (L ++ [(p.1, p.2 - 1)] ++ [(x.k, x.kids)])) = R) := hide_ (by
          have h := HC2.out
          unfold ct at h
          rw [HT.out, HE.out, if_pos (by rfl), HT2.out] at h
          rw [List.append_assoc]
          exact h)
        obtain ⟨t1, t2⟩ := HS3.out.top
        have t3 := HS3.out.1.frozen (L.length * 2 + 1)
        have k4 := HK3.out.other ⟨g, L.length * 2 + 1, none⟩ (.int .i64 (p.2 - 1)) (by show wq.heap.size ≠ g; omega)
        have s4 := HS3.out.dec (p.2 - 1)
        have b4 : Below w.heap.size w (w3.setCell ⟨g, L.length * 2 + 1, none⟩ (.int .i64 (p.2 - 1))) := HB3.out.trans (((Upd.refl (fun k => k = g) w3).set ⟨g, L.length * 2 + 1, none⟩ _ (.inl rfl)).below w.heap.size HB3.out.size (fun k hk => by subst hk; exact hg))
        obtain ⟨w4, hw4⟩ : ∃ w4, w4 = w3.setCell ⟨g, L.length * 2 + 1, none⟩ (.int .i64 (p.2 - 1)) := ⟨_, rfl⟩
        rw [← hw4] at k4 s4 b4
        have d0 := k4.cell 0
        have d5 := k4.cell 5
        simp at d0 d5
        have HS4 := hide_ s4
        have HB4 := hide_ b4
        have hpb : p.2 - 1 ≤ 64 := by omega
        have hpa : 0 ≤ p.2 - 1 := by omega
        clear k4 s4 b4 HS3 HK3 HB3 HE HT HT2 HC2 HO HO2
        go_upto_region 20 with fail
        rw [← hw4]
        clear hw4 t1 t2 t3
        have HMs : Hid (i + 1 ≤ N.length) := hide_ hlt
        by_cases hk : 0 < x.kids
        case neg =>
          have hk0 : x.kids = 0 := by omega
          have HC6 : Hid (ct (N.drop (i + 1)) (i + 1) (wo (L ++ [(p.1, p.2 - 1)])) = R) := hide_ (by have h := HC5.out; rw [wo_zero (L ++ [(p.1, p.2 - 1)]) (x.k, x.kids) hk0] at h; exact h)
          have HO6 : Hid (∀ q ∈ L ++ [(p.1, p.2 - 1)], 0 ≤ q.2 ∧ q.2 ≤ 64) := hide_ (fun q hq => by
            simp at hq
            rcases hq with h | rfl
            · exact HM.out q h
            · exact ⟨hpa, hpb⟩)
          have hl6 : (L ++ [(p.1, p.2 - 1)]).length = L.length + 1 := by simp
          obtain ⟨LL, hLL⟩ : ∃ LL, L ++ [(p.1, p.2 - 1)] = LL := ⟨_, rfl⟩
          rw [hLL] at HC6 HO6 HS4 hl6
          rw [← hl6]
          have hl7 : LL.length ≤ 18 := by omega
          clear hLL hl6 HC5 HM
          rw [hk0] at d5
          go_wp2
          go_roundw
          case rel => exact ⟨i + 1, LL, g, cap, _, HMs.out, rfl, by go_num, hg, hl7, HO6, HS4, HC6, HB4⟩
          case measure => simp [intOf]; omega
        have HO5 : Hid (∀ q ∈ L ++ [(p.1, p.2 - 1)] ++ [(x.k, x.kids)], 0 ≤ q.2 ∧ q.2 ≤ 64) := hide_ (fun q hq => by
          simp at hq
          rcases hq with h | rfl | rfl
          · exact HM.out q h
          · exact ⟨hpa, hpb⟩
          · show 0 ≤ x.kids ∧ x.kids ≤ 64; omega)
        obtain ⟨gn, capn, w5, r5, o5, u5, c5⟩ := run_pushS (P := Tryd.prog) (t := 88) (e := 87) (z := .agg #[.int .i64 0, .int .i64 0]) (bytes := 16) Tryd.underlying88 (by kernel_rfl) rfl (by decide) w4 88 (HS4.out.own (B := w.heap.size) hg) (prc (x.k, x.kids)) rfl (by intro u hu; simp [prc] at hu; rcases hu with rfl | rfl <;> rfl) (by unfold maxLen; simp; omega) (by simp; omega) HB4.out.size
        have hgn : w.heap.size ≤ gn := by
          rcases c5 with h | h
          · have := own_is h; omega
          · exact Nat.le_trans HB4.out.size h
        have b5 : Below w.heap.size w w5 := HB4.out.trans (u5.below w.heap.size HB4.out.size (fun k hk => by have := own_is hk; omega))
        have hl4 : (L ++ [(p.1, p.2 - 1)]).length + 1 = (L ++ [(p.1, p.2 - 1)] ++ [(x.k, x.kids)]).length := by simp
        have ec : cellsP (L ++ [(p.1, p.2 - 1)]) ++ prc (x.k, x.kids) = cellsP (L ++ [(p.1, p.2 - 1)] ++ [(x.k, x.kids)]) := by rw [cellsP_app (L ++ [(p.1, p.2 - 1)])]; simp [cellsP]
        rw [ec, hl4] at o5
        obtain ⟨-, ys5, hs5⟩ := StD.of_own o5 (by simp)
        have HS5 := hide_ hs5
        have HB5 := hide_ b5
        have r5' : (Builtin.append_ #[88, 88] 88 #[.slice (some ⟨g, 0, none⟩) (L.length + 1) cap, .slice (some ⟨w4.heap.size, 0, none⟩) 1 1]).run Tryd.prog (w4.alloc (.cells #[.int .i64 x.k, .int .i64 x.kids] 87)) = .ok (.slice (some ⟨gn, 0, none⟩) ((L ++ [(p.1, p.2 - 1)] ++ [(x.k, x.kids)]).length) capn) w5 := by
          rw [hl4] at r5
          have e : (L ++ [(p.1, p.2 - 1)]).length = L.length + 1 := by simp
          rw [e] at r5
          exact r5
        have HR5 := hide_ r5'
        have hl8 : (L ++ [(p.1, p.2 - 1)] ++ [(x.k, x.kids)]).length ≤ 18 := by simp; omega
        obtain ⟨LL, hLL⟩ : ∃ LL, L ++ [(p.1, p.2 - 1)] ++ [(x.k, x.kids)] = LL := ⟨_, rfl⟩
        rw [hLL] at HR5 HS5 HO5 HC5 hl8
        clear r5 r5' o5 u5 c5 hs5 b5 hl4 ec hLL HM HS4 HB4
        go_wp2_with (at_builtin; have _t := HR5; refine wpList_append_run rfl (.tmp 104) (.tmp 110) 88 88 rfl rfl rfl HR5.out ?_; clear HR5)
        go_roundw
        case rel => exact ⟨i + 1, LL, gn, capn, ys5, HMs.out, rfl, by go_num, hgn, hl8, HO5, HS5, HC5, HB5⟩
        case measure => simp [intOf]; omega
end Go.Proofs.YtafljgjkcnbhbaaDoor
