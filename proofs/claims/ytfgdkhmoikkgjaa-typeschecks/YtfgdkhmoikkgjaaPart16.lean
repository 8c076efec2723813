import Derived.Test.YtfgdkhmoikkgjaaPart15

/- Check: a node. -/
namespace Go.Proofs.Ytfgdkhmoikkgjaa
open Go.RowKit
set_option linter.unusedVariables false

def nodeE (k n : Int) (nm lb : ByteArray) (tg kd of : Int) (dp : Nat) : Int :=
  if 16 < dp then 61 else if (k = 8 ∨ k = 7) ∧ 64 < kd then 5
  else if kindOk k n kd = false ∨ nameOk nm (decide (k = 9)) = false ∨ nameOk lb (decide (of = 8)) = false then 62
  else if tg ≠ 0 ∧ (of ≠ 7 ∨ numB tg = false) then 62 else 0
set_option maxRecDepth 100000 in
set_option maxHeartbeats 4000000 in
theorem cnode_any (k n : Int) (nm lb : ByteArray) (tg kd at_ of : Int) (dp : Nat) (w : World) : Calls Try.prog 47 #[.agg #[.int .i64 k, .int .i64 n, .string nm, .string lb, .int .i64 tg, .int .i64 kd, .int .i64 at_], .int .i64 of, .int .i64 (dp : Int)] w fun e w' => e = .returned (.int .i64 (nodeE k n nm lb tg kd of dp)) ∧ Below w.heap.size w w' := by
  have HB : Hid (∀ o, Below w.heap.size w (w.alloc o)) := fun o => (Below.refl _ _).alloc (Nat.le_refl _) _
  obtain ⟨E, hE⟩ : ∃ E, nodeE k n nm lb tg kd of dp = E := ⟨_, rfl⟩
  have HE := hide_ hE
  rw [hE]
  clear hE
  by_cases hd : 16 < dp
  · have hd' : (16 : Int) < dp := by omega
    have HV : Hid (E = 61) := hide_ (by rw [← HE.out]; unfold nodeE; rw [if_pos hd])
    clear HE
    go_enter Try.func47, Try.ntmps47
    go_wp2
    go_ret
    exact ⟨by rw [HV.out]; rfl, HB.out _⟩
  have hd' : ¬ (16 : Int) < dp := by omega
  by_cases hm : (k = 8 ∨ k = 7) ∧ 64 < kd
  · have HV : Hid (E = 5) := hide_ (by rw [← HE.out]; unfold nodeE; rw [if_neg hd, if_pos hm])
    clear HE
    obtain ⟨hk, hkd⟩ := hm
    rcases hk with rfl | rfl <;> (
      go_enter Try.func47, Try.ntmps47
      go_wp2
      go_ret
      exact ⟨by rw [HV.out]; rfl, HB.out _⟩)
  have HKb := hide_ (Blk.newA w #[.int .i64 k, .int .i64 n, .string nm, .string lb, .int .i64 tg, .int .i64 kd, .int .i64 at_] 40)
  obtain ⟨b1, hb1⟩ : ∃ b, kindOk k n kd = b := ⟨_, rfl⟩
  obtain ⟨b2, hb2⟩ : ∃ b, nameOk nm (decide (k = 9)) = b := ⟨_, rfl⟩
  obtain ⟨b3, hb3⟩ : ∃ b, nameOk lb (decide (of = 8)) = b := ⟨_, rfl⟩
  obtain ⟨b4, hb4⟩ : ∃ b, numB tg = b := ⟨_, rfl⟩
  have hk4 : (k = 8 ∧ kd ≤ 64) ∨ (k = 7 ∧ kd ≤ 64) ∨ k = 9 ∨ (k ≠ 8 ∧ k ≠ 7 ∧ k ≠ 9 ∧ (k == 9) = false) := by
    by_cases e9 : k = 9
    · exact .inr (.inr (.inl e9))
    · have e9' : (k == 9) = false := by simpa using e9
      have : (k = 8 ∧ kd ≤ 64) ∨ (k = 7 ∧ kd ≤ 64) ∨ (k ≠ 8 ∧ k ≠ 7) := by omega
      rcases this with h | h | h
      · exact .inl h
      · exact .inr (.inl h)
      · exact .inr (.inr (.inr ⟨h.1, h.2, e9, e9'⟩))
  have HE1 : Hid (E = if b1 = false ∨ b2 = false ∨ b3 = false then 62 else if tg ≠ 0 ∧ (of ≠ 7 ∨ b4 = false) then 62 else 0) := hide_ (by rw [← HE.out]; unfold nodeE; rw [if_neg hd, if_neg hm, hb1, hb2, hb3, hb4])
  clear HE hm hd
  have HC : Hid (∀ w', Below (w.heap.size + 1) (w.alloc (.cells #[.int .i64 k, .int .i64 n, .string nm, .string lb, .int .i64 tg, .int .i64 kd, .int .i64 at_] 40)) w' → w'.cell? ⟨w.heap.size, 0, none⟩ = some (.int .i64 k) ∧ w'.cell? ⟨w.heap.size, 2, none⟩ = some (.string nm) ∧ w'.cell? ⟨w.heap.size, 3, none⟩ = some (.string lb) ∧ w'.cell? ⟨w.heap.size, 4, none⟩ = some (.int .i64 tg) ∧ Below w.heap.size w w') := fun w' hB => by
    have hB' : Below (w.alloc (.cells #[.int .i64 k, .int .i64 n, .string nm, .string lb, .int .i64 tg, .int .i64 kd, .int .i64 at_] 40)).heap.size (w.alloc (.cells #[.int .i64 k, .int .i64 n, .string nm, .string lb, .int .i64 tg, .int .i64 kd, .int .i64 at_] 40)) w' := by simpa using hB
    have h := HKb.out.later hB'
    exact ⟨h.cell 0, h.cell 2, h.cell 3, h.cell 4, below_to (HB.out _) hB'⟩
  cases b1 with
  | false =>
    have HV : Hid (E = 62) := hide_ (by rw [HE1.out]; simp)
    clear HE1 hb2 hb3 hb4
    rcases hk4 with ⟨rfl, h64⟩ | ⟨rfl, h64⟩ | rfl | ⟨h8, h7, h9, h9'⟩ <;> (
      go_enter Try.func47, Try.ntmps47
      go_wp2_with (go_at_call 60; refine (rkind_any _ _ _ _ _ _ _ _).mono ?_; rintro e w2 ⟨rfl, hB2⟩; (obtain ⟨-, -, -, -, hBz⟩ := HC.out w2 (by simpa using hB2)); rw [hb1])
      go_ret
      exact ⟨by rw [HV.out]; rfl, hBz⟩)
  | true =>
    cases b2 with
    | false =>
      have HV : Hid (E = 62) := hide_ (by rw [HE1.out]; simp)
      clear HE1 hb3 hb4
      rcases hk4 with ⟨rfl, h64⟩ | ⟨rfl, h64⟩ | rfl | ⟨h8, h7, h9, h9'⟩ <;> first | simp only [h9, decide_false] at hb2 | simp at hb2
      all_goals
        go_enter Try.func47, Try.ntmps47
        go_wp2_with (first | (go_at_call 60; refine (rkind_any _ _ _ _ _ _ _ _).mono ?_; rintro e w2 ⟨rfl, hB2⟩; (obtain ⟨c0, c2, c3, c4, hBz⟩ := HC.out w2 (by simpa using hB2)); rw [hb1]) | (go_at_call 61; refine (rname_any _ _ _).mono ?_; rintro e w3 ⟨rfl, rfl⟩; rw [hb2]))
        go_ret
        exact ⟨by rw [HV.out]; rfl, hBz⟩
    | true =>
      have hk5 : (k = 8 ∧ kd ≤ 64 ∧ nameOk nm false = true) ∨ (k = 7 ∧ kd ≤ 64 ∧ nameOk nm false = true) ∨ (k = 9 ∧ nameOk nm true = true) ∨ (k ≠ 8 ∧ k ≠ 7 ∧ k ≠ 9 ∧ (k == 9) = false ∧ nameOk nm false = true) := by
        rcases hk4 with ⟨rfl, h⟩ | ⟨rfl, h⟩ | rfl | ⟨h8, h7, h9, h9'⟩
        · exact .inl ⟨rfl, h, hb2⟩
        · exact .inr (.inl ⟨rfl, h, hb2⟩)
        · exact .inr (.inr (.inl ⟨rfl, hb2⟩))
        · simp only [h9, decide_false] at hb2
          exact .inr (.inr (.inr ⟨h8, h7, h9, h9', hb2⟩))
      clear hk4 hb2
      cases b3 with
      | false =>
        have HV : Hid (E = 62) := hide_ (by rw [HE1.out]; simp)
        clear HE1 hb4
        have ho : (of = 8 ∧ nameOk lb true = false) ∨ (of ≠ 8 ∧ (of == 8) = false ∧ nameOk lb false = false) := by
          by_cases h : of = 8
          · subst h; exact .inl ⟨rfl, hb3⟩
          · simp only [h, decide_false] at hb3
            exact .inr ⟨h, by simpa using h, hb3⟩
        clear hb3
        rcases ho with ⟨rfl, hb3⟩ | ⟨ho, ho', hb3⟩ <;> rcases hk5 with ⟨rfl, h64, hb2⟩ | ⟨rfl, h64, hb2⟩ | ⟨rfl, hb2⟩ | ⟨h8, h7, h9, h9', hb2⟩
        all_goals
          go_enter Try.func47, Try.ntmps47
          go_wp2_with (first | (go_at_call 60; refine (rkind_any _ _ _ _ _ _ _ _).mono ?_; rintro e w2 ⟨rfl, hB2⟩; (obtain ⟨c0, c2, c3, c4, hBz⟩ := HC.out w2 (by simpa using hB2)); rw [hb1]) | (go_at_call_of 61 (Value.string nm); refine (rname_any nm _ _).mono ?_; rintro e w3 ⟨rfl, rfl⟩; rw [hb2]) | (go_at_call 61; refine (rname_any lb _ _).mono ?_; rintro e w3 ⟨rfl, rfl⟩; rw [hb3]) | (go_at_call 62; refine (isnum_any _ _).mono ?_; rintro e w3 ⟨rfl, rfl⟩; rw [hb4]))
          go_ret
          exact ⟨by rw [HV.out]; rfl, hBz⟩
      | true =>
        have ho : (of = 8 ∧ nameOk lb true = true) ∨ (of = 7 ∧ (of == 8) = false ∧ nameOk lb false = true) ∨ (of ≠ 8 ∧ of ≠ 7 ∧ (of == 8) = false ∧ nameOk lb false = true) := by
          by_cases h : of = 8
          · subst h; exact .inl ⟨rfl, hb3⟩
          · simp only [h, decide_false] at hb3
            by_cases h7 : of = 7
            · exact .inr (.inl ⟨h7, by simpa using h, hb3⟩)
            · exact .inr (.inr ⟨h, h7, by simpa using h, hb3⟩)
        clear hb3
        by_cases ht : tg = 0
        · have HV : Hid (E = 0) := hide_ (by rw [HE1.out, ht]; simp)
          clear HE1
          subst ht
          rcases ho with ⟨rfl, hb3⟩ | ⟨rfl, ho', hb3⟩ | ⟨ho, ho7, ho', hb3⟩ <;> rcases hk5 with ⟨rfl, h64, hb2⟩ | ⟨rfl, h64, hb2⟩ | ⟨rfl, hb2⟩ | ⟨h8, h7, h9, h9', hb2⟩
          all_goals
            go_enter Try.func47, Try.ntmps47
            go_wp2_with (first | (go_at_call 60; refine (rkind_any _ _ _ _ _ _ _ _).mono ?_; rintro e w2 ⟨rfl, hB2⟩; (obtain ⟨c0, c2, c3, c4, hBz⟩ := HC.out w2 (by simpa using hB2)); rw [hb1]) | (go_at_call_of 61 (Value.string nm); refine (rname_any nm _ _).mono ?_; rintro e w3 ⟨rfl, rfl⟩; rw [hb2]) | (go_at_call 61; refine (rname_any lb _ _).mono ?_; rintro e w3 ⟨rfl, rfl⟩; rw [hb3]) | (go_at_call 62; refine (isnum_any _ _).mono ?_; rintro e w3 ⟨rfl, rfl⟩; rw [hb4]))
            go_ret
            exact ⟨by rw [HV.out]; rfl, hBz⟩
        · rcases ho with ⟨rfl, hb3⟩ | ⟨rfl, ho', hb3⟩ | ⟨ho, ho7, ho', hb3⟩
          · have HV : Hid (E = 62) := hide_ (by rw [HE1.out]; simp [ht])
            clear HE1
            rcases hk5 with ⟨rfl, h64, hb2⟩ | ⟨rfl, h64, hb2⟩ | ⟨rfl, hb2⟩ | ⟨h8, h7, h9, h9', hb2⟩
            all_goals
              go_enter Try.func47, Try.ntmps47
              go_wp2_with (first | (go_at_call 60; refine (rkind_any _ _ _ _ _ _ _ _).mono ?_; rintro e w2 ⟨rfl, hB2⟩; (obtain ⟨c0, c2, c3, c4, hBz⟩ := HC.out w2 (by simpa using hB2)); rw [hb1]) | (go_at_call_of 61 (Value.string nm); refine (rname_any nm _ _).mono ?_; rintro e w3 ⟨rfl, rfl⟩; rw [hb2]) | (go_at_call 61; refine (rname_any lb _ _).mono ?_; rintro e w3 ⟨rfl, rfl⟩; rw [hb3]) | (go_at_call 62; refine (isnum_any _ _).mono ?_; rintro e w3 ⟨rfl, rfl⟩; rw [hb4]))
              go_ret
              exact ⟨by rw [HV.out]; rfl, hBz⟩
          · cases b4 with
            | false =>
              have HV : Hid (E = 62) := hide_ (by rw [HE1.out]; simp [ht])
              clear HE1
              rcases hk5 with ⟨rfl, h64, hb2⟩ | ⟨rfl, h64, hb2⟩ | ⟨rfl, hb2⟩ | ⟨h8, h7, h9, h9', hb2⟩
              all_goals
                go_enter Try.func47, Try.ntmps47
                go_wp2_with (first | (go_at_call 60; refine (rkind_any _ _ _ _ _ _ _ _).mono ?_; rintro e w2 ⟨rfl, hB2⟩; (obtain ⟨c0, c2, c3, c4, hBz⟩ := HC.out w2 (by simpa using hB2)); rw [hb1]) | (go_at_call_of 61 (Value.string nm); refine (rname_any nm _ _).mono ?_; rintro e w3 ⟨rfl, rfl⟩; rw [hb2]) | (go_at_call 61; refine (rname_any lb _ _).mono ?_; rintro e w3 ⟨rfl, rfl⟩; rw [hb3]) | (go_at_call 62; refine (isnum_any _ _).mono ?_; rintro e w3 ⟨rfl, rfl⟩; rw [hb4]))
                go_ret
                exact ⟨by rw [HV.out]; rfl, hBz⟩
            | true =>
              have HV : Hid (E = 0) := hide_ (by rw [HE1.out]; simp)
              clear HE1
              rcases hk5 with ⟨rfl, h64, hb2⟩ | ⟨rfl, h64, hb2⟩ | ⟨rfl, hb2⟩ | ⟨h8, h7, h9, h9', hb2⟩
              all_goals
                go_enter Try.func47, Try.ntmps47
                go_wp2_with (first | (go_at_call 60; refine (rkind_any _ _ _ _ _ _ _ _).mono ?_; rintro e w2 ⟨rfl, hB2⟩; (obtain ⟨c0, c2, c3, c4, hBz⟩ := HC.out w2 (by simpa using hB2)); rw [hb1]) | (go_at_call_of 61 (Value.string nm); refine (rname_any nm _ _).mono ?_; rintro e w3 ⟨rfl, rfl⟩; rw [hb2]) | (go_at_call 61; refine (rname_any lb _ _).mono ?_; rintro e w3 ⟨rfl, rfl⟩; rw [hb3]) | (go_at_call 62; refine (isnum_any _ _).mono ?_; rintro e w3 ⟨rfl, rfl⟩; rw [hb4]))
                go_ret
                exact ⟨by rw [HV.out]; rfl, hBz⟩
          · have HV : Hid (E = 62) := hide_ (by rw [HE1.out]; simp [ht, ho7])
            clear HE1
            rcases hk5 with ⟨rfl, h64, hb2⟩ | ⟨rfl, h64, hb2⟩ | ⟨rfl, hb2⟩ | ⟨h8, h7, h9, h9', hb2⟩
            all_goals
              go_enter Try.func47, Try.ntmps47
              go_wp2_with (first | (go_at_call 60; refine (rkind_any _ _ _ _ _ _ _ _).mono ?_; rintro e w2 ⟨rfl, hB2⟩; (obtain ⟨c0, c2, c3, c4, hBz⟩ := HC.out w2 (by simpa using hB2)); rw [hb1]) | (go_at_call_of 61 (Value.string nm); refine (rname_any nm _ _).mono ?_; rintro e w3 ⟨rfl, rfl⟩; rw [hb2]) | (go_at_call 61; refine (rname_any lb _ _).mono ?_; rintro e w3 ⟨rfl, rfl⟩; rw [hb3]) | (go_at_call 62; refine (isnum_any _ _).mono ?_; rintro e w3 ⟨rfl, rfl⟩; rw [hb4]))
              go_ret
              exact ⟨by rw [HV.out]; rfl, hBz⟩
end Go.Proofs.Ytfgdkhmoikkgjaa

/- Check: the parents' stack. -/
namespace Go.Proofs.Ytfgdkhmoikkgjaa
open Go.RowKit
set_option linter.unusedVariables false

/-- The parents: kind and kids to come, the innermost last. -/
def prc (p : Int × Int) : List Value := [.int .i64 p.1, .int .i64 p.2]
def cellsP (L : List (Int × Int)) : List Value := L.flatMap prc
theorem cellsP_len (L : List (Int × Int)) : (cellsP L).length = L.length * 2 := by
  induction L with
  | nil => rfl
  | cons a L ih => simp [cellsP, prc] at ih ⊢; omega
theorem cellsP_app (L M : List (Int × Int)) : cellsP (L ++ M) = cellsP L ++ cellsP M := by simp [cellsP]
/-- Without those at the end that have none to come. -/
def woR : List (Int × Int) → List (Int × Int)
  | [] => []
  | p :: L => if p.2 = 0 then woR L else p :: L
def wo (L : List (Int × Int)) : List (Int × Int) := (woR L.reverse).reverse
theorem wo_nil : wo [] = [] := rfl
theorem wo_zero (L : List (Int × Int)) (p : Int × Int) (h : p.2 = 0) : wo (L ++ [p]) = wo L := by
  unfold wo
  rw [List.reverse_append]
  simp [woR, h]
theorem wo_more (L : List (Int × Int)) (p : Int × Int) (h : p.2 ≠ 0) : wo (L ++ [p]) = L ++ [p] := by
  unfold wo
  rw [List.reverse_append]
  simp [woR, h]
theorem snoc_of (L : List (Int × Int)) (n : Nat) (h : L.length = n + 1) : ∃ M p, L = M ++ [p] ∧ M.length = n := by
  rcases List.eq_nil_or_concat L with rfl | ⟨M, p, rfl⟩
  · simp at h
  · exact ⟨M, p, by simp, by simp at h; omega⟩
/-- The stack in a block of its own: what lies above it is whatever it was. -/
def Stk (w : World) (g cap : Nat) (L : List (Int × Int)) (ys : List Value) : Prop := Blk w g 86 ys ∧ ys.length = cap * 2 ∧ L.length ≤ cap ∧ cap ≤ maxLen ∧ ys.take (L.length * 2) = cellsP L
theorem Stk.own {w : World} {B g cap : Nat} {L : List (Int × Int)} {ys : List Value} (h : Stk w g cap L ys) (hb : B ≤ g) : w.ownsRow B 86 2 (.slice (some ⟨g, 0, none⟩) L.length cap) L.length (cellsP L) := by
  have k := ownS_of_blk (n := L.length) (B := B) h.1 hb h.2.1 h.2.2.1 h.2.2.2.1
  rw [h.2.2.2.2] at k
  exact k
theorem Stk.of_own {w : World} {B g cap : Nat} {L : List (Int × Int)} (h : w.ownsRow B 86 2 (.slice (some ⟨g, 0, none⟩) L.length cap) L.length (cellsP L)) (h0 : 0 < L.length) : B ≤ g ∧ ∃ ys, Stk w g cap L ys := by
  obtain ⟨g', cap', ys, hv, hb, hn, hm, hl, ht, hK⟩ := ownS_blk h h0
  injection hv with e1 e2 e3
  injection e1 with e1
  injection e1 with e1
  subst e1 e3
  exact ⟨hb, ys, hK, hl, hn, hm, ht⟩
theorem Stk.cut {w : World} {g cap : Nat} {L : List (Int × Int)} {p : Int × Int} {ys : List Value} (h : Stk w g cap (L ++ [p]) ys) : Stk w g cap L ys := by
  obtain ⟨h1, h2, h3, h4, h5⟩ := h
  refine ⟨h1, h2, by simp at h3; omega, h4, ?_⟩
  have := congrArg (List.take (L.length * 2)) h5
  rw [List.take_take, cellsP_app, List.take_append_of_le_length (by rw [cellsP_len]; exact Nat.le_refl _), List.take_of_length_le (l := cellsP L) (by rw [cellsP_len]; exact Nat.le_refl _)] at this
  rw [← this]
  congr 1
  simp
theorem Stk.top {w : World} {g cap : Nat} {L : List (Int × Int)} {p : Int × Int} {ys : List Value} (h : Stk w g cap (L ++ [p]) ys) : w.cell? ⟨g, L.length * 2, none⟩ = some (.int .i64 p.1) ∧ w.cell? ⟨g, L.length * 2 + 1, none⟩ = some (.int .i64 p.2) := by
  obtain ⟨h1, h2, h3, h4, h5⟩ := h
  have e : ∀ j, j < 2 → ys[L.length * 2 + j]? = (prc p)[j]? := fun j hj => by
    have : ys[L.length * 2 + j]? = (ys.take ((L ++ [p]).length * 2))[L.length * 2 + j]? := by rw [List.getElem?_take, if_pos (by simp; omega)]
    rw [this, h5, cellsP_app, List.getElem?_append_right (by rw [cellsP_len]; omega), cellsP_len]
    have e : L.length * 2 + j - L.length * 2 = j := by omega
    rw [e]
    simp [cellsP]
  have h0 := e 0 (by decide)
  have h1' := e 1 (by decide)
  simp [prc] at h0 h1'
  exact ⟨by rw [h1.cell]; exact h0, by rw [h1.cell]; exact h1'⟩
theorem Stk.later {w w' : World} {g cap : Nat} {L : List (Int × Int)} {ys : List Value} (h : Stk w g cap L ys) (hB : Below w.heap.size w w') : Stk w' g cap L ys := ⟨h.1.later hB, h.2⟩
set_option maxRecDepth 100000 in
set_option maxHeartbeats 4000000 in
theorem without_any (g cap : Nat) (L : List (Int × Int)) (ys : List Value) (w : World) (hS : Hid (Stk w g cap L ys)) :
    Calls Try.prog 48 #[.slice (some ⟨g, 0, none⟩) L.length cap] w fun e w' => e = .returned (.slice (some ⟨g, 0, none⟩) (wo L).length cap) ∧ Hid (Stk w g cap (wo L) ys) ∧ w = w' := by
  have hcap : cap ≤ 9223372036854775807 := by have := hS.out.2.2.2.1; unfold maxLen at this; omega
  go_enter Try.func48, Try.ntmps48
  go_wp2_with fail
  go_loopw [0] (fun x wr => ∃ M : List (Int × Int), x = .slice (some ⟨g, 0, none⟩) M.length cap ∧ Hid (Stk w g cap M ys) ∧ Hid (wo M = wo L) ∧ w = wr) (fun x _ => match x with | .slice _ n _ => n | _ => 0)
  case atStart => exact ⟨L, rfl, hS, rfl, rfl⟩
  case round =>
    obtain ⟨M, rfl, HS, HW, rfl⟩ := hrel
    have hMc : M.length ≤ cap := HS.out.2.2.1
    rcases List.eq_nil_or_concat M with rfl | ⟨N, p, hM⟩
    · have HW' : Hid (wo L = []) := hide_ (by rw [← HW.out]; rfl)
      have HS' : Hid (Stk w g cap (wo L) ys) := by rw [HW'.out]; exact HS
      have HL : Hid ((wo L).length = 0) := hide_ (by rw [HW'.out]; rfl)
      simp only [List.length_nil]
      go_wp2
      go_ret
      exact ⟨by rw [HL.out]; rfl, HS', rfl⟩
    · rw [List.concat_eq_append] at hM
      subst hM
      obtain ⟨t1, t2⟩ := HS.out.top
      have hlen : (N ++ [p]).length = N.length + 1 := by simp
      rw [hlen] at hMc ⊢
      clear hlen
      have ha : (0 : Int) < (N.length : Int) + 1 := by omega
      by_cases hp : p.2 = 0
      · have HS2 := hide_ (HS.out.cut)
        have HW2 : Hid (wo N = wo L) := hide_ (by rw [← HW.out, wo_zero _ _ hp])
        rw [hp] at t2
        go_wp2
        go_roundw
        case rel => exact ⟨N, rfl, HS2, HW2, trivial⟩
        case measure => simp
      · have hp' : (p.2 == 0) = false := by simpa using hp
        have HW' : Hid (wo L = N ++ [p]) := hide_ (by rw [← HW.out, wo_more _ _ hp])
        have HS' : Hid (Stk w g cap (wo L) ys) := by rw [HW'.out]; exact HS
        have HL : Hid ((wo L).length = N.length + 1) := hide_ (by rw [HW'.out]; simp)
        go_wp2
        go_ret
        exact ⟨by rw [HL.out]; rfl, HS', rfl⟩
end Go.Proofs.Ytfgdkhmoikkgjaa

/- Check: a type expression. -/
namespace Go.Proofs.Ytfgdkhmoikkgjaa
open Go.RowKit
set_option linter.unusedVariables false

def ndE (x : Nd) (of : Int) (dp : Nat) : Int := nodeE x.k x.n x.name x.label x.tag x.kids of dp
/-- The first node at fault: node and error; the stack's innermost last. -/
def ctS (L : List (Int × Int)) (x : Nd) : List (Int × Int) :=
  match L.getLast? with
  | none => []
  | some p => wo (L.dropLast ++ [(p.1, p.2 - 1), (x.k, x.kids)])
def ctE (L : List (Int × Int)) (x : Nd) : Int :=
  match L.getLast? with
  | none => 62
  | some p => ndE x p.1 (L.length - 1)
def ct : List Nd → Nat → List (Int × Int) → Int × Int
  | [], i, L => if L = [] then (0, 0) else ((i : Int), 62)
  | x :: xs, i, L => if ctE L x = 0 then ct xs (i + 1) (ctS L x) else ((i : Int), ctE L x)
theorem ndE_kids {x : Nd} {of : Int} {dp : Nat} (h : ndE x of dp = 0) : dp ≤ 16 ∧ 0 ≤ x.kids ∧ x.kids ≤ 64 := by
  unfold ndE nodeE at h
  by_cases h1 : 16 < dp
  · rw [if_pos h1] at h; omega
  rw [if_neg h1] at h
  by_cases h2 : (x.k = 8 ∨ x.k = 7) ∧ 64 < x.kids
  · rw [if_pos h2] at h; omega
  rw [if_neg h2] at h
  cases h3 : kindOk x.k x.n x.kids with
  | false => rw [if_pos (.inl h3)] at h; omega
  | true =>
    refine ⟨by omega, ?_⟩
    unfold kindOk at h3
    by_cases e1 : x.k = 1
    · rw [if_pos e1] at h3; have := of_decide_eq_true h3; omega
    rw [if_neg e1] at h3
    by_cases e2 : x.k = 2 ∨ x.k = 3 ∨ x.k = 9
    · rw [if_pos e2] at h3; have := of_decide_eq_true h3; omega
    rw [if_neg e2] at h3
    by_cases e3 : x.k = 4 ∨ x.k = 5
    · rw [if_pos e3] at h3
      rw [Bool.and_eq_true] at h3
      have := of_decide_eq_true h3.2; omega
    rw [if_neg e3] at h3
    by_cases e4 : x.k = 6
    · rw [if_pos e4] at h3; have := of_decide_eq_true h3; omega
    rw [if_neg e4] at h3
    by_cases e5 : x.k = 7 ∨ x.k = 8
    · rw [if_pos e5] at h3
      have := of_decide_eq_true h3
      omega
    · rw [if_neg e5] at h3; cases h3
/-- Stacks that may be: none to come below 0, none without kids to come at the end. -/
def StOk (L : List (Int × Int)) : Prop := L.length ≤ 18 ∧ (∀ p ∈ L, 0 ≤ p.2 ∧ p.2 ≤ 64) ∧ (∀ M p, L = M ++ [p] → 0 < p.2)
theorem woR_sub : ∀ (L : List (Int × Int)), (∀ p ∈ woR L, p ∈ L) ∧ (woR L).length ≤ L.length ∧ (∀ p M, woR L = p :: M → p.2 ≠ 0)
  | [] => ⟨fun p h => h, Nat.le_refl _, fun p M h => by cases h⟩
  | q :: L => by
    obtain ⟨h1, h2, h3⟩ := woR_sub L
    unfold woR
    by_cases h : q.2 = 0
    · rw [if_pos h]
      exact ⟨fun p hp => .tail _ (h1 p hp), by simp; omega, h3⟩
    · rw [if_neg h]
      refine ⟨fun p hp => hp, Nat.le_refl _, fun p M e => ?_⟩
      injection e with e1 _
      subst e1
      exact h
theorem wo_ok {L : List (Int × Int)} (hl : L.length ≤ 18) (h : ∀ p ∈ L, 0 ≤ p.2 ∧ p.2 ≤ 64) : StOk (wo L) := by
  obtain ⟨h1, h2, h3⟩ := woR_sub L.reverse
  refine ⟨by unfold wo; rw [List.length_reverse]; rw [List.length_reverse] at h2; omega, fun p hp => h p ?_, fun M p e => ?_⟩
  · unfold wo at hp
    rw [List.mem_reverse] at hp
    have := h1 p hp
    rwa [List.mem_reverse] at this
  · have e' : woR L.reverse = p :: M.reverse := by
      have := congrArg List.reverse e
      unfold wo at this
      simpa using this
    have hp : p ∈ L := by
      have := h1 p (by rw [e']; exact .head _)
      rwa [List.mem_reverse] at this
    have := h p hp
    have := h3 p _ e'
    omega
theorem stOk_one : StOk [((0 : Int), (1 : Int))] := by
  refine ⟨by decide, fun p hp => ?_, fun M p e => ?_⟩
  · simp at hp; subst hp; decide
  · have := congrArg List.reverse e
    simp at this
    rw [← this.1]; decide
theorem Stk.dec {w : World} {g cap : Nat} {L : List (Int × Int)} {p : Int × Int} {ys : List Value} (h : Stk w g cap (L ++ [p]) ys) (q : Int) :
    Stk (w.setCell ⟨g, L.length * 2 + 1, none⟩ (.int .i64 q)) g cap (L ++ [(p.1, q)]) (ys.set (L.length * 2 + 1) (.int .i64 q)) := by
  obtain ⟨h1, h2, h3, h4, h5⟩ := h
  refine ⟨h1.set _ _, by simpa using h2, by simpa using h3, h4, ?_⟩
  have e : (L ++ [(p.1, q)]).length = (L ++ [p]).length := by simp
  rw [e, List.take_set, h5, cellsP_app, cellsP_app, List.set_append_right _ _ (by rw [cellsP_len]; omega), cellsP_len]
  have e2 : L.length * 2 + 1 - L.length * 2 = 1 := by omega
  rw [e2]
  rfl
theorem bldP (a b : Int) (w : World) : (Instr.build 86 #[(0, .int .i64 a), (1, .int .i64 b)]).run Try.prog w = .ok (.agg #[.int .i64 a, .int .i64 b]) w := by kernel_rfl
theorem bldP1 (b : Int) (w : World) : (Instr.build 86 #[(1, .int .i64 b)]).run Try.prog w = .ok (.agg #[.int .i64 0, .int .i64 b]) w := by kernel_rfl
end Go.Proofs.Ytfgdkhmoikkgjaa
