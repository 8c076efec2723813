import Derived.Test.YtiemobmbiomocaaPart16

/- Check: a node. -/
namespace Go.Proofs.Ytiemobmbiomocaa
open Go.RowKit
set_option linter.unusedVariables false

def nodeE (k n : Int) (nm lb : ByteArray) (tg kd of : Int) (dp : Nat) : Int :=
  if 16 < dp then 61 else if (k = 8 ∨ k = 7) ∧ 64 < kd then 5
  else if kindOk k n kd = false ∨ nameOk nm (decide (k = 9)) = false ∨ nameOk lb (decide (of = 8)) = false then 62
  else if tg ≠ 0 ∧ (of ≠ 7 ∨ numB tg = false) then 62 else 0
set_option maxRecDepth 100000 in
set_option maxHeartbeats 4000000 in
theorem cnode_any (k n : Int) (nm lb : ByteArray) (tg kd at_ of : Int) (dp : Nat) (w : World) : Calls Try.prog 48 #[.agg #[.int .i64 k, .int .i64 n, .string nm, .string lb, .int .i64 tg, .int .i64 kd, .int .i64 at_], .int .i64 of, .int .i64 (dp : Int)] w fun e w' => e = .returned (.int .i64 (nodeE k n nm lb tg kd of dp)) ∧ Below w.heap.size w w' := by
  have HB : Hid (∀ o, Below w.heap.size w (w.alloc o)) := fun o => (Below.refl _ _).alloc (Nat.le_refl _) _
  obtain ⟨E, hE⟩ : ∃ E, nodeE k n nm lb tg kd of dp = E := ⟨_, rfl⟩
  have HE := hide_ hE
  rw [hE]
  clear hE
  by_cases hd : 16 < dp
  · have hd' : (16 : Int) < dp := by omega
    have HV : Hid (E = 61) := hide_ (by rw [← HE.out]; unfold nodeE; rw [if_pos hd])
    clear HE
    go_enter Try.func48, Try.ntmps48
    go_wp2
    go_ret
    exact ⟨by rw [HV.out]; rfl, HB.out _⟩
  have hd' : ¬ (16 : Int) < dp := by omega
  by_cases hm : (k = 8 ∨ k = 7) ∧ 64 < kd
  · have HV : Hid (E = 5) := hide_ (by rw [← HE.out]; unfold nodeE; rw [if_neg hd, if_pos hm])
    clear HE
    obtain ⟨hk, hkd⟩ := hm
    rcases hk with rfl | rfl <;> (
      go_enter Try.func48, Try.ntmps48
      go_wp2
      go_ret
      exact ⟨by rw [HV.out]; rfl, HB.out _⟩)
  have HKb := hide_ (Blk.newA w #[.int .i64 k, .int .i64 n, .string nm, .string lb, .int .i64 tg, .int .i64 kd, .int .i64 at_] 41)
  obtain ⟨b1, hb1⟩ : ∃ b, kindOk k n kd = b := ⟨_, rfl⟩
  obtain ⟨b2, hb2⟩ : ∃ b, nameOk nm (decide (k = 9)) = b := ⟨_, rfl⟩
  obtain ⟨b3, hb3⟩ : ∃ b, nameOk lb (decide (of = 8)) = b := ⟨_, rfl⟩
  obtain ⟨b4, hb4⟩ : ∃ b, numB tg = b := ⟨_, rfl⟩
  have hk4 : (k = 8 ∧ kd ≤ 64) ∨ (k = 7 ∧ kd ≤ 64) ∨ k = 9 ∨ (k ≠ 8 ∧ k ≠ 7 ∧ k ≠ 9 ∧ (k == 9) = false) := by
    by_cases e9 : k = 9
    · exact .inr (.inr (.inl e9))
    · have e9' : (k == 9) = false := by simpa using e9
      have : (k = 8 ∧ kd ≤ 64) ∨ (k = 7 ∧ kd ≤ 64) ∨ (k ≠ 8 ∧ k ≠ 7) := by omega
      rcases this with h | h | h
      · exact .inl h
      · exact .inr (.inl h)
      · exact .inr (.inr (.inr ⟨h.1, h.2, e9, e9'⟩))
  have HE1 : Hid (E = if b1 = false ∨ b2 = false ∨ b3 = false then 62 else if tg ≠ 0 ∧ (of ≠ 7 ∨ b4 = false) then 62 else 0) := hide_ (by rw [← HE.out]; unfold nodeE; rw [if_neg hd, if_neg hm, hb1, hb2, hb3, hb4])
  clear HE hm hd
  have HC : Hid (∀ w', Below (w.heap.size + 1) (w.alloc (.cells #[.int .i64 k, .int .i64 n, .string nm, .string lb, .int .i64 tg, .int .i64 kd, .int .i64 at_] 41)) w' → w'.cell? ⟨w.heap.size, 0, none⟩ = some (.int .i64 k) ∧ w'.cell? ⟨w.heap.size, 2, none⟩ = some (.string nm) ∧ w'.cell? ⟨w.heap.size, 3, none⟩ = some (.string lb) ∧ w'.cell? ⟨w.heap.size, 4, none⟩ = some (.int .i64 tg) ∧ Below w.heap.size w w') := fun w' hB => by
    have hB' : Below (w.alloc (.cells #[.int .i64 k, .int .i64 n, .string nm, .string lb, .int .i64 tg, .int .i64 kd, .int .i64 at_] 41)).heap.size (w.alloc (.cells #[.int .i64 k, .int .i64 n, .string nm, .string lb, .int .i64 tg, .int .i64 kd, .int .i64 at_] 41)) w' := by simpa using hB
    have h := HKb.out.later hB'
    exact ⟨h.cell 0, h.cell 2, h.cell 3, h.cell 4, below_to (HB.out _) hB'⟩
  cases b1 with
  | false =>
    have HV : Hid (E = 62) := hide_ (by rw [HE1.out]; simp)
    clear HE1 hb2 hb3 hb4
    rcases hk4 with ⟨rfl, h64⟩ | ⟨rfl, h64⟩ | rfl | ⟨h8, h7, h9, h9'⟩ <;> (
      go_enter Try.func48, Try.ntmps48
      go_wp2_with (go_at_call 64; refine (rkind_any _ _ _ _ _ _ _ _).mono ?_; rintro e w2 ⟨rfl, hB2⟩; (obtain ⟨-, -, -, -, hBz⟩ := HC.out w2 (by simpa using hB2)); rw [hb1])
      go_ret
      exact ⟨by rw [HV.out]; rfl, hBz⟩)
  | true =>
    cases b2 with
    | false =>
      have HV : Hid (E = 62) := hide_ (by rw [HE1.out]; simp)
      clear HE1 hb3 hb4
      rcases hk4 with ⟨rfl, h64⟩ | ⟨rfl, h64⟩ | rfl | ⟨h8, h7, h9, h9'⟩ <;> first | simp only [h9, decide_false] at hb2 | simp at hb2
      all_goals
        go_enter Try.func48, Try.ntmps48
        go_wp2_with (first | (go_at_call 64; refine (rkind_any _ _ _ _ _ _ _ _).mono ?_; rintro e w2 ⟨rfl, hB2⟩; (obtain ⟨c0, c2, c3, c4, hBz⟩ := HC.out w2 (by simpa using hB2)); rw [hb1]) | (go_at_call 65; refine (rname_any _ _ _).mono ?_; rintro e w3 ⟨rfl, rfl⟩; rw [hb2]))
        go_ret
        exact ⟨by rw [HV.out]; rfl, hBz⟩
    | true =>
      have hk5 : (k = 8 ∧ kd ≤ 64 ∧ nameOk nm false = true) ∨ (k = 7 ∧ kd ≤ 64 ∧ nameOk nm false = true) ∨ (k = 9 ∧ nameOk nm true = true) ∨ (k ≠ 8 ∧ k ≠ 7 ∧ k ≠ 9 ∧ (k == 9) = false ∧ nameOk nm false = true) := by
        rcases hk4 with ⟨rfl, h⟩ | ⟨rfl, h⟩ | rfl | ⟨h8, h7, h9, h9'⟩
        · exact .inl ⟨rfl, h, hb2⟩
        · exact .inr (.inl ⟨rfl, h, hb2⟩)
        · exact .inr (.inr (.inl ⟨rfl, hb2⟩))
        · simp only [h9, decide_false] at hb2
          exact .inr (.inr (.inr ⟨h8, h7, h9, h9', hb2⟩))
      clear hk4 hb2
      cases b3 with
      | false =>
        have HV : Hid (E = 62) := hide_ (by rw [HE1.out]; simp)
        clear HE1 hb4
        have ho : (of = 8 ∧ nameOk lb true = false) ∨ (of ≠ 8 ∧ (of == 8) = false ∧ nameOk lb false = false) := by
          by_cases h : of = 8
          · subst h; exact .inl ⟨rfl, hb3⟩
          · simp only [h, decide_false] at hb3
            exact .inr ⟨h, by simpa using h, hb3⟩
        clear hb3
        rcases ho with ⟨rfl, hb3⟩ | ⟨ho, ho', hb3⟩ <;> rcases hk5 with ⟨rfl, h64, hb2⟩ | ⟨rfl, h64, hb2⟩ | ⟨rfl, hb2⟩ | ⟨h8, h7, h9, h9', hb2⟩
        all_goals
          go_enter Try.func48, Try.ntmps48
          go_wp2_with (first | (go_at_call 64; refine (rkind_any _ _ _ _ _ _ _ _).mono ?_; rintro e w2 ⟨rfl, hB2⟩; (obtain ⟨c0, c2, c3, c4, hBz⟩ := HC.out w2 (by simpa using hB2)); rw [hb1]) | (go_at_call_of 65 (Value.string nm); refine (rname_any nm _ _).mono ?_; rintro e w3 ⟨rfl, rfl⟩; rw [hb2]) | (go_at_call 65; refine (rname_any lb _ _).mono ?_; rintro e w3 ⟨rfl, rfl⟩; rw [hb3]) | (go_at_call 66; refine (isnum_any _ _).mono ?_; rintro e w3 ⟨rfl, rfl⟩; rw [hb4]))
          go_ret
          exact ⟨by rw [HV.out]; rfl, hBz⟩
      | true =>
        have ho : (of = 8 ∧ nameOk lb true = true) ∨ (of = 7 ∧ (of == 8) = false ∧ nameOk lb false = true) ∨ (of ≠ 8 ∧ of ≠ 7 ∧ (of == 8) = false ∧ nameOk lb false = true) := by
          by_cases h : of = 8
          · subst h; exact .inl ⟨rfl, hb3⟩
          · simp only [h, decide_false] at hb3
            by_cases h7 : of = 7
            · exact .inr (.inl ⟨h7, by simpa using h, hb3⟩)
            · exact .inr (.inr ⟨h, h7, by simpa using h, hb3⟩)
        clear hb3
        by_cases ht : tg = 0
        · have HV : Hid (E = 0) := hide_ (by rw [HE1.out, ht]; simp)
          clear HE1
          subst ht
          rcases ho with ⟨rfl, hb3⟩ | ⟨rfl, ho', hb3⟩ | ⟨ho, ho7, ho', hb3⟩ <;> rcases hk5 with ⟨rfl, h64, hb2⟩ | ⟨rfl, h64, hb2⟩ | ⟨rfl, hb2⟩ | ⟨h8, h7, h9, h9', hb2⟩
          all_goals
            go_enter Try.func48, Try.ntmps48
            go_wp2_with (first | (go_at_call 64; refine (rkind_any _ _ _ _ _ _ _ _).mono ?_; rintro e w2 ⟨rfl, hB2⟩; (obtain ⟨c0, c2, c3, c4, hBz⟩ := HC.out w2 (by simpa using hB2)); rw [hb1]) | (go_at_call_of 65 (Value.string nm); refine (rname_any nm _ _).mono ?_; rintro e w3 ⟨rfl, rfl⟩; rw [hb2]) | (go_at_call 65; refine (rname_any lb _ _).mono ?_; rintro e w3 ⟨rfl, rfl⟩; rw [hb3]) | (go_at_call 66; refine (isnum_any _ _).mono ?_; rintro e w3 ⟨rfl, rfl⟩; rw [hb4]))
            go_ret
            exact ⟨by rw [HV.out]; rfl, hBz⟩
        · rcases ho with ⟨rfl, hb3⟩ | ⟨rfl, ho', hb3⟩ | ⟨ho, ho7, ho', hb3⟩
          · have HV : Hid (E = 62) := hide_ (by rw [HE1.out]; simp [ht])
            clear HE1
            rcases hk5 with ⟨rfl, h64, hb2⟩ | ⟨rfl, h64, hb2⟩ | ⟨rfl, hb2⟩ | ⟨h8, h7, h9, h9', hb2⟩
            all_goals
              go_enter Try.func48, Try.ntmps48
              go_wp2_with (first | (go_at_call 64; refine (rkind_any _ _ _ _ _ _ _ _).mono ?_; rintro e w2 ⟨rfl, hB2⟩; (obtain ⟨c0, c2, c3, c4, hBz⟩ := HC.out w2 (by simpa using hB2)); rw [hb1]) | (go_at_call_of 65 (Value.string nm); refine (rname_any nm _ _).mono ?_; rintro e w3 ⟨rfl, rfl⟩; rw [hb2]) | (go_at_call 65; refine (rname_any lb _ _).mono ?_; rintro e w3 ⟨rfl, rfl⟩; rw [hb3]) | (go_at_call 66; refine (isnum_any _ _).mono ?_; rintro e w3 ⟨rfl, rfl⟩; rw [hb4]))
              go_ret
              exact ⟨by rw [HV.out]; rfl, hBz⟩
          · cases b4 with
            | false =>
              have HV : Hid (E = 62) := hide_ (by rw [HE1.out]; simp [ht])
              clear HE1
              rcases hk5 with ⟨rfl, h64, hb2⟩ | ⟨rfl, h64, hb2⟩ | ⟨rfl, hb2⟩ | ⟨h8, h7, h9, h9', hb2⟩
              all_goals
                go_enter Try.func48, Try.ntmps48
                go_wp2_with (first | (go_at_call 64; refine (rkind_any _ _ _ _ _ _ _ _).mono ?_; rintro e w2 ⟨rfl, hB2⟩; (obtain ⟨c0, c2, c3, c4, hBz⟩ := HC.out w2 (by simpa using hB2)); rw [hb1]) | (go_at_call_of 65 (Value.string nm); refine (rname_any nm _ _).mono ?_; rintro e w3 ⟨rfl, rfl⟩; rw [hb2]) | (go_at_call 65; refine (rname_any lb _ _).mono ?_; rintro e w3 ⟨rfl, rfl⟩; rw [hb3]) | (go_at_call 66; refine (isnum_any _ _).mono ?_; rintro e w3 ⟨rfl, rfl⟩; rw [hb4]))
                go_ret
                exact ⟨by rw [HV.out]; rfl, hBz⟩
            | true =>
              have HV : Hid (E = 0) := hide_ (by rw [HE1.out]; simp)
              clear HE1
              rcases hk5 with ⟨rfl, h64, hb2⟩ | ⟨rfl, h64, hb2⟩ | ⟨rfl, hb2⟩ | ⟨h8, h7, h9, h9', hb2⟩
              all_goals
                go_enter Try.func48, Try.ntmps48
                go_wp2_with (first | (go_at_call 64; refine (rkind_any _ _ _ _ _ _ _ _).mono ?_; rintro e w2 ⟨rfl, hB2⟩; (obtain ⟨c0, c2, c3, c4, hBz⟩ := HC.out w2 (by simpa using hB2)); rw [hb1]) | (go_at_call_of 65 (Value.string nm); refine (rname_any nm _ _).mono ?_; rintro e w3 ⟨rfl, rfl⟩; rw [hb2]) | (go_at_call 65; refine (rname_any lb _ _).mono ?_; rintro e w3 ⟨rfl, rfl⟩; rw [hb3]) | (go_at_call 66; refine (isnum_any _ _).mono ?_; rintro e w3 ⟨rfl, rfl⟩; rw [hb4]))
                go_ret
                exact ⟨by rw [HV.out]; rfl, hBz⟩
          · have HV : Hid (E = 62) := hide_ (by rw [HE1.out]; simp [ht, ho7])
            clear HE1
            rcases hk5 with ⟨rfl, h64, hb2⟩ | ⟨rfl, h64, hb2⟩ | ⟨rfl, hb2⟩ | ⟨h8, h7, h9, h9', hb2⟩
            all_goals
              go_enter Try.func48, Try.ntmps48
              go_wp2_with (first | (go_at_call 64; refine (rkind_any _ _ _ _ _ _ _ _).mono ?_; rintro e w2 ⟨rfl, hB2⟩; (obtain ⟨c0, c2, c3, c4, hBz⟩ := HC.out w2 (by simpa using hB2)); rw [hb1]) | (go_at_call_of 65 (Value.string nm); refine (rname_any nm _ _).mono ?_; rintro e w3 ⟨rfl, rfl⟩; rw [hb2]) | (go_at_call 65; refine (rname_any lb _ _).mono ?_; rintro e w3 ⟨rfl, rfl⟩; rw [hb3]) | (go_at_call 66; refine (isnum_any _ _).mono ?_; rintro e w3 ⟨rfl, rfl⟩; rw [hb4]))
              go_ret
              exact ⟨by rw [HV.out]; rfl, hBz⟩
end Go.Proofs.Ytiemobmbiomocaa

/- Check: the parents' stack. -/
namespace Go.Proofs.Ytiemobmbiomocaa
open Go.RowKit
set_option linter.unusedVariables false

/-- The parents: kind and kids to come, the innermost last. -/
def prc (p : Int × Int) : List Value := [.int .i64 p.1, .int .i64 p.2]
def cellsP (L : List (Int × Int)) : List Value := L.flatMap prc
theorem cellsP_len (L : List (Int × Int)) : (cellsP L).length = L.length * 2 := by
  induction L with
  | nil => rfl
  | cons a L ih => simp [cellsP, prc] at ih ⊢; omega
theorem cellsP_app (L M : List (Int × Int)) : cellsP (L ++ M) = cellsP L ++ cellsP M := by simp [cellsP]
/-- Without those at the end that have none to come. -/
def woR : List (Int × Int) → List (Int × Int)
  | [] => []
  | p :: L => if p.2 = 0 then woR L else p :: L
def wo (L : List (Int × Int)) : List (Int × Int) := (woR L.reverse).reverse
theorem wo_nil : wo [] = [] := rfl
theorem wo_zero (L : List (Int × Int)) (p : Int × Int) (h : p.2 = 0) : wo (L ++ [p]) = wo L := by
  unfold wo
  rw [List.reverse_append]
  simp [woR, h]
theorem wo_more (L : List (Int × Int)) (p : Int × Int) (h : p.2 ≠ 0) : wo (L ++ [p]) = L ++ [p] := by
  unfold wo
  rw [List.reverse_append]
  simp [woR, h]
theorem snoc_of (L : List (Int × Int)) (n : Nat) (h : L.length = n + 1) : ∃ M p, L = M ++ [p] ∧ M.length = n := by
  rcases List.eq_nil_or_concat L with rfl | ⟨M, p, rfl⟩
  · simp at h
  · exact ⟨M, p, by simp, by simp at h; omega⟩
/-- The stack in a block of its own: what lies above it is whatever it was. -/
def Stk (w : World) (g cap : Nat) (L : List (Int × Int)) (ys : List Value) : Prop := Blk w g 102 ys ∧ ys.length = cap * 2 ∧ L.length ≤ cap ∧ cap ≤ maxLen ∧ ys.take (L.length * 2) = cellsP L
theorem Stk.own {w : World} {B g cap : Nat} {L : List (Int × Int)} {ys : List Value} (h : Stk w g cap L ys) (hb : B ≤ g) : w.ownsRow B 102 2 (.slice (some ⟨g, 0, none⟩) L.length cap) L.length (cellsP L) := by
  have k := ownS_of_blk (n := L.length) (B := B) h.1 hb h.2.1 h.2.2.1 h.2.2.2.1
  rw [h.2.2.2.2] at k
  exact k
theorem Stk.of_own {w : World} {B g cap : Nat} {L : List (Int × Int)} (h : w.ownsRow B 102 2 (.slice (some ⟨g, 0, none⟩) L.length cap) L.length (cellsP L)) (h0 : 0 < L.length) : B ≤ g ∧ ∃ ys, Stk w g cap L ys := by
  obtain ⟨g', cap', ys, hv, hb, hn, hm, hl, ht, hK⟩ := ownS_blk h h0
  injection hv with e1 e2 e3
  injection e1 with e1
  injection e1 with e1
  subst e1 e3
  exact ⟨hb, ys, hK, hl, hn, hm, ht⟩
theorem Stk.cut {w : World} {g cap : Nat} {L : List (Int × Int)} {p : Int × Int} {ys : List Value} (h : Stk w g cap (L ++ [p]) ys) : Stk w g cap L ys := by
  obtain ⟨h1, h2, h3, h4, h5⟩ := h
  refine ⟨h1, h2, by simp at h3; omega, h4, ?_⟩
  have := congrArg (List.take (L.length * 2)) h5
  rw [List.take_take, cellsP_app, List.take_append_of_le_length (by rw [cellsP_len]; exact Nat.le_refl _), List.take_of_length_le (l := cellsP L) (by rw [cellsP_len]; exact Nat.le_refl _)] at this
  rw [← this]
  congr 1
  simp
theorem Stk.top {w : World} {g cap : Nat} {L : List (Int × Int)} {p : Int × Int} {ys : List Value} (h : Stk w g cap (L ++ [p]) ys) : w.cell? ⟨g, L.length * 2, none⟩ = some (.int .i64 p.1) ∧ w.cell? ⟨g, L.length * 2 + 1, none⟩ = some (.int .i64 p.2) := by
  obtain ⟨h1, h2, h3, h4, h5⟩ := h
  have e : ∀ j, j < 2 → ys[L.length * 2 + j]? = (prc p)[j]? := fun j hj => by
    have : ys[L.length * 2 + j]? = (ys.take ((L ++ [p]).length * 2))[L.length * 2 + j]? := by rw [List.getElem?_take, if_pos (by simp; omega)]
    rw [this, h5, cellsP_app, List.getElem?_append_right (by rw [cellsP_len]; omega), cellsP_len]
    have e : L.length * 2 + j - L.length * 2 = j := by omega
    rw [e]
    simp [cellsP]
  have h0 := e 0 (by decide)
  have h1' := e 1 (by decide)
  simp [prc] at h0 h1'
  exact ⟨by rw [h1.cell]; exact h0, by rw [h1.cell]; exact h1'⟩
theorem Stk.later {w w' : World} {g cap : Nat} {L : List (Int × Int)} {ys : List Value} (h : Stk w g cap L ys) (hB : Below w.heap.size w w') : Stk w' g cap L ys := ⟨h.1.later hB, h.2⟩
set_option maxRecDepth 100000 in
set_option maxHeartbeats 4000000 in
theorem without_any (g cap : Nat) (L : List (Int × Int)) (ys : List Value) (w : World) (hS : Hid (Stk w g cap L ys)) :
    Calls Try.prog 49 #[.slice (some ⟨g, 0, none⟩) L.length cap] w fun e w' => e = .returned (.slice (some ⟨g, 0, none⟩) (wo L).length cap) ∧ Hid (Stk w g cap (wo L) ys) ∧ w = w' := by
  have hcap : cap ≤ 9223372036854775807 := by have := hS.out.2.2.2.1; unfold maxLen at this; omega
  go_enter Try.func49, Try.ntmps49
  go_wp2_with fail
  go_loopw [0] (fun x wr => ∃ M : List (Int × Int), x = .slice (some ⟨g, 0, none⟩) M.length cap ∧ Hid (Stk w g cap M ys) ∧ Hid (wo M = wo L) ∧ w = wr) (fun x _ => match x with | .slice _ n _ => n | _ => 0)
  case atStart => exact ⟨L, rfl, hS, rfl, rfl⟩
  case round =>
    obtain ⟨M, rfl, HS, HW, rfl⟩ := hrel
    have hMc : M.length ≤ cap := HS.out.2.2.1
    rcases List.eq_nil_or_concat M with rfl | ⟨N, p, hM⟩
    · have HW' : Hid (wo L = []) := hide_ (by rw [← HW.out]; rfl)
      have HS' : Hid (Stk w g cap (wo L) ys) := by rw [HW'.out]; exact HS
      have HL : Hid ((wo L).length = 0) := hide_ (by rw [HW'.out]; rfl)
      simp only [List.length_nil]
      go_wp2
      go_ret
      exact ⟨by rw [HL.out]; rfl, HS', rfl⟩
    · rw [List.concat_eq_append] at hM
      subst hM
      obtain ⟨t1, t2⟩ := HS.out.top
      have hlen : (N ++ [p]).length = N.length + 1 := by simp
      rw [hlen] at hMc ⊢
      clear hlen
      have ha : (0 : Int) < (N.length : Int) + 1 := by omega
      by_cases hp : p.2 = 0
      · have HS2 := hide_ (HS.out.cut)
        have HW2 : Hid (wo N = wo L) := hide_ (by rw [← HW.out, wo_zero _ _ hp])
        rw [hp] at t2
        go_wp2
        go_roundw
        case rel => exact ⟨N, rfl, HS2, HW2, trivial⟩
        case measure => simp
      · have hp' : (p.2 == 0) = false := by simpa using hp
        have HW' : Hid (wo L = N ++ [p]) := hide_ (by rw [← HW.out, wo_more _ _ hp])
        have HS' : Hid (Stk w g cap (wo L) ys) := by rw [HW'.out]; exact HS
        have HL : Hid ((wo L).length = N.length + 1) := hide_ (by rw [HW'.out]; simp)
        go_wp2
        go_ret
        exact ⟨by rw [HL.out]; rfl, HS', rfl⟩
end Go.Proofs.Ytiemobmbiomocaa

/- Check: a type expression. -/
namespace Go.Proofs.Ytiemobmbiomocaa
open Go.RowKit
set_option linter.unusedVariables false

def ndE (x : Nd) (of : Int) (dp : Nat) : Int := nodeE x.k x.n x.name x.label x.tag x.kids of dp
/-- The first node at fault: node and error; the stack's innermost last. -/
def ctS (L : List (Int × Int)) (x : Nd) : List (Int × Int) :=
  match L.getLast? with
  | none => []
  | some p => wo (L.dropLast ++ [(p.1, p.2 - 1), (x.k, x.kids)])
def ctE (L : List (Int × Int)) (x : Nd) : Int :=
  match L.getLast? with
  | none => 62
  | some p => ndE x p.1 (L.length - 1)
def ct : List Nd → Nat → List (Int × Int) → Int × Int
  | [], i, L => if L = [] then (0, 0) else ((i : Int), 62)
  | x :: xs, i, L => if ctE L x = 0 then ct xs (i + 1) (ctS L x) else ((i : Int), ctE L x)
theorem ndE_kids {x : Nd} {of : Int} {dp : Nat} (h : ndE x of dp = 0) : dp ≤ 16 ∧ 0 ≤ x.kids ∧ x.kids ≤ 64 := by
  unfold ndE nodeE at h
  by_cases h1 : 16 < dp
  · rw [if_pos h1] at h; omega
  rw [if_neg h1] at h
  by_cases h2 : (x.k = 8 ∨ x.k = 7) ∧ 64 < x.kids
  · rw [if_pos h2] at h; omega
  rw [if_neg h2] at h
  cases h3 : kindOk x.k x.n x.kids with
  | false => rw [if_pos (.inl h3)] at h; omega
  | true =>
    refine ⟨by omega, ?_⟩
    unfold kindOk at h3
    by_cases e1 : x.k = 1
    · rw [if_pos e1] at h3; have := of_decide_eq_true h3; omega
    rw [if_neg e1] at h3
    by_cases e2 : x.k = 2 ∨ x.k = 3 ∨ x.k = 9
    · rw [if_pos e2] at h3; have := of_decide_eq_true h3; omega
    rw [if_neg e2] at h3
    by_cases e3 : x.k = 4 ∨ x.k = 5
    · rw [if_pos e3] at h3
      rw [Bool.and_eq_true] at h3
      have := of_decide_eq_true h3.2; omega
    rw [if_neg e3] at h3
    by_cases e4 : x.k = 6
    · rw [if_pos e4] at h3; have := of_decide_eq_true h3; omega
    rw [if_neg e4] at h3
    by_cases e5 : x.k = 7 ∨ x.k = 8
    · rw [if_pos e5] at h3
      have := of_decide_eq_true h3
      omega
    · rw [if_neg e5] at h3; cases h3
/-- Stacks that may be: none to come below 0, none without kids to come at the end. -/
def StOk (L : List (Int × Int)) : Prop := L.length ≤ 18 ∧ (∀ p ∈ L, 0 ≤ p.2 ∧ p.2 ≤ 64) ∧ (∀ M p, L = M ++ [p] → 0 < p.2)
theorem woR_sub : ∀ (L : List (Int × Int)), (∀ p ∈ woR L, p ∈ L) ∧ (woR L).length ≤ L.length ∧ (∀ p M, woR L = p :: M → p.2 ≠ 0)
  | [] => ⟨fun p h => h, Nat.le_refl _, fun p M h => by cases h⟩
  | q :: L => by
    obtain ⟨h1, h2, h3⟩ := woR_sub L
    unfold woR
    by_cases h : q.2 = 0
    · rw [if_pos h]
      exact ⟨fun p hp => .tail _ (h1 p hp), by simp; omega, h3⟩
    · rw [if_neg h]
      refine ⟨fun p hp => hp, Nat.le_refl _, fun p M e => ?_⟩
      injection e with e1 _
      subst e1
      exact h
theorem wo_ok {L : List (Int × Int)} (hl : L.length ≤ 18) (h : ∀ p ∈ L, 0 ≤ p.2 ∧ p.2 ≤ 64) : StOk (wo L) := by
  obtain ⟨h1, h2, h3⟩ := woR_sub L.reverse
  refine ⟨by unfold wo; rw [List.length_reverse]; rw [List.length_reverse] at h2; omega, fun p hp => h p ?_, fun M p e => ?_⟩
  · unfold wo at hp
    rw [List.mem_reverse] at hp
    have := h1 p hp
    rwa [List.mem_reverse] at this
  · have e' : woR L.reverse = p :: M.reverse := by
      have := congrArg List.reverse e
      unfold wo at this
      simpa using this
    have hp : p ∈ L := by
      have := h1 p (by rw [e']; exact .head _)
      rwa [List.mem_reverse] at this
    have := h p hp
    have := h3 p _ e'
    omega
theorem stOk_one : StOk [((0 : Int), (1 : Int))] := by
  refine ⟨by decide, fun p hp => ?_, fun M p e => ?_⟩
  · simp at hp; subst hp; decide
  · have := congrArg List.reverse e
    simp at this
    rw [← this.1]; decide
theorem Stk.dec {w : World} {g cap : Nat} {L : List (Int × Int)} {p : Int × Int} {ys : List Value} (h : Stk w g cap (L ++ [p]) ys) (q : Int) :
    Stk (w.setCell ⟨g, L.length * 2 + 1, none⟩ (.int .i64 q)) g cap (L ++ [(p.1, q)]) (ys.set (L.length * 2 + 1) (.int .i64 q)) := by
  obtain ⟨h1, h2, h3, h4, h5⟩ := h
  refine ⟨h1.set _ _, by simpa using h2, by simpa using h3, h4, ?_⟩
  have e : (L ++ [(p.1, q)]).length = (L ++ [p]).length := by simp
  rw [e, List.take_set, h5, cellsP_app, cellsP_app, List.set_append_right _ _ (by rw [cellsP_len]; omega), cellsP_len]
  have e2 : L.length * 2 + 1 - L.length * 2 = 1 := by omega
  rw [e2]
  rfl
theorem bldP (a b : Int) (w : World) : (Instr.build 102 #[(0, .int .i64 a), (1, .int .i64 b)]).run Try.prog w = .ok (.agg #[.int .i64 a, .int .i64 b]) w := by kernel_rfl
theorem bldP1 (b : Int) (w : World) : (Instr.build 102 #[(1, .int .i64 b)]).run Try.prog w = .ok (.agg #[.int .i64 0, .int .i64 b]) w := by kernel_rfl
end Go.Proofs.Ytiemobmbiomocaa

/- Check: a type expression, the walk. -/
namespace Go.Proofs.Ytiemobmbiomocaa
open Go.RowKit
set_option linter.unusedVariables false

set_option maxRecDepth 100000 in
set_option maxHeartbeats 8000000 in
theorem ctype_any (va : Option Addr) (vc : Nat) (N : List Nd) (w : World) (hN : N.length ≤ 9223372036854775807) (hr : Hid (NRow w va N)) :
    Calls Try.prog 27 #[.slice va N.length vc] w fun e w' => e = .returned (.tuple #[.int .i64 (ct N 0 [(0, 1)]).1, .int .i64 (ct N 0 [(0, 1)]).2]) ∧ Below w.heap.size w w' := by
  obtain ⟨R, hR⟩ : ∃ R, ct N 0 [(0, 1)] = R := ⟨_, rfl⟩
  have HR := hide_ hR
  rw [hR]
  clear hR
  have hb1 := bldP1
  have hb2 := bldP
  have hk0 := Blk.newA w #[.int .i64 0, .int .i64 1] 102
  have HS0 : Hid (Stk (w.alloc (.cells #[.int .i64 0, .int .i64 1] 102)) w.heap.size 1 [(0, 1)] [.int .i64 0, .int .i64 1]) := ⟨hk0, rfl, Nat.le_refl _, by decide, rfl⟩
  have HB0 : Hid (Below w.heap.size w (w.alloc (.cells #[.int .i64 0, .int .i64 1] 102))) := (Below.refl _ _).alloc (Nat.le_refl _) _
  clear hk0
  go_enter Try.func27, Try.ntmps27
  go_wp2_with fail
  go_loopw [4, 13] (fun x4 x13 wr => ∃ (i : Nat) (L : List (Int × Int)) (g cap : Nat) (ys : List Value), i ≤ N.length ∧ x4 = .slice (some ⟨g, 0, none⟩) L.length cap ∧ x13 = .int .i64 (i : Int) ∧ w.heap.size ≤ g ∧ Hid (StOk L) ∧ Hid (Stk wr g cap L ys) ∧ Hid (ct (N.drop i) i L = R) ∧ Hid (Below w.heap.size w wr)) (fun _ x13 _ => N.length - (intOf x13).toNat)
  case atStart => exact ⟨0, [(0, 1)], w.heap.size, 1, _, Nat.zero_le _, rfl, rfl, Nat.le_refl _, stOk_one, HS0, HR, HB0⟩
  case round =>
    obtain ⟨i, L, g, cap, ys, hi, rfl, rfl, hg, HO, HS, HC, HB⟩ := hrel
    generalize wr = wq at *
    have hL18 : L.length ≤ 18 := HO.out.1
    clear HS0 HB0 HR
    by_cases hlt : i < N.length
    · have hlt' : (i : Int) < N.length := by omega
      obtain ⟨b, o, rfl, hb, hc⟩ := (hr.out.later HB.out).open (by omega)
      have hx : N[i]? = some (N[i]'hlt) := List.getElem?_eq_getElem hlt
      have hcx := hc i _ hx
      have hdr : N.drop i = N[i]'hlt :: N.drop (i + 1) := List.drop_eq_getElem_cons hlt
      generalize N[i]'hlt = x at *
      rw [hdr] at HC
      have i0 := hcx 0 (by decide); have i1 := hcx 1 (by decide); have i2 := hcx 2 (by decide); have i3 := hcx 3 (by decide); have i4 := hcx 4 (by decide); have i5 := hcx 5 (by decide); have i6 := hcx 6 (by decide)
      simp [ndc] at i0 i1 i2 i3 i4 i5 i6
      clear hc hx hcx hdr
      rcases List.eq_nil_or_concat L with rfl | ⟨M, p, hM⟩
      · have HV : Hid (R = ((i : Int), 62)) := hide_ (by rw [← HC.out]; rfl)
        simp only [List.length_nil]
        go_wp2
        go_ret2
        exact ⟨by rw [HV.out]; rfl, HB.out.alloc HB.out.size _⟩
      · rw [List.concat_eq_append] at hM
        subst hM
        have hlen : (M ++ [p]).length = M.length + 1 := by simp
        have HT : Hid (ctE (M ++ [p]) x = nodeE x.k x.n x.name x.label x.tag x.kids p.1 M.length) := hide_ (by unfold ctE ndE; simp)
        have HT2 : Hid (ctS (M ++ [p]) x = wo (M ++ [(p.1, p.2 - 1), (x.k, x.kids)])) := hide_ (by unfold ctS; simp)
        rw [hlen] at hL18 ⊢
        clear hlen
        have kx := Blk.newA wq #[.int .i64 x.k, .int .i64 x.n, .string x.name, .string x.label, .int .i64 x.tag, .int .i64 x.kids, .int .i64 x.a] 41
        have hBx : Below wq.heap.size wq (wq.alloc (.cells #[.int .i64 x.k, .int .i64 x.n, .string x.name, .string x.label, .int .i64 x.tag, .int .i64 x.kids, .int .i64 x.a] 41)) := (Below.refl _ _).alloc (Nat.le_refl _) _
        obtain ⟨wx, hwx⟩ : ∃ wx, wx = wq.alloc (.cells #[.int .i64 x.k, .int .i64 x.n, .string x.name, .string x.label, .int .i64 x.tag, .int .i64 x.kids, .int .i64 x.a] 41) := ⟨_, rfl⟩
        rw [← hwx] at kx hBx
        have KX := hide_ kx
        have HSx := hide_ (HS.out.later hBx)
        have HBx := hide_ (below_to HB.out hBx)
        have hgq : g < wq.heap.size := HS.out.1.lt
        clear kx hBx HS
        go_upto_region 5 with fail
        rw [← hwx]
        clear hwx i0 i1 i2 i3 i4 i5 i6
        have ha : ¬ (M.length : Int) + 1 = 0 := by omega
        have ha' : ((M.length : Int) + 1 == 0) = false := by simpa using ha
        go_upto_region 8 with fail
        have HSS : Hid (∀ w', Below wx.heap.size wx w' → Below wx.heap.size wx w' ∧ w'.cell? ⟨wq.heap.size, 0, none⟩ = some (.int .i64 x.k) ∧ w'.cell? ⟨wq.heap.size, 1, none⟩ = some (.int .i64 x.n) ∧ w'.cell? ⟨wq.heap.size, 2, none⟩ = some (.string x.name) ∧ w'.cell? ⟨wq.heap.size, 3, none⟩ = some (.string x.label) ∧ w'.cell? ⟨wq.heap.size, 4, none⟩ = some (.int .i64 x.tag) ∧ w'.cell? ⟨wq.heap.size, 5, none⟩ = some (.int .i64 x.kids) ∧ w'.cell? ⟨wq.heap.size, 6, none⟩ = some (.int .i64 x.a) ∧ w'.cell? ⟨g, M.length * 2, none⟩ = some (.int .i64 p.1)) := fun w' hB => by
          have h := KX.out.later hB
          exact ⟨hB, h.cell 0, h.cell 1, h.cell 2, h.cell 3, h.cell 4, h.cell 5, h.cell 6, (HSx.out.later hB).top.1⟩
        obtain ⟨E, hE⟩ : ∃ E, nodeE x.k x.n x.name x.label x.tag x.kids p.1 M.length = E := ⟨_, rfl⟩
        have HE := hide_ hE
        have HCon : Hid (∀ w', Calls Try.prog 48 #[.agg #[.int .i64 x.k, .int .i64 x.n, .string x.name, .string x.label, .int .i64 x.tag, .int .i64 x.kids, .int .i64 x.a], .int .i64 p.1, .int .i64 (M.length : Int)] w' fun e w'' => e = .returned (.int .i64 E) ∧ Below w'.heap.size w' w'') := fun w' => by
          have h := cnode_any x.k x.n x.name x.label x.tag x.kids x.a p.1 M.length w'
          rw [hE] at h
          exact h
        clear hE
        have hj4 : (M.length : Int) < (M.length : Int) + 1 := by omega
        go_wp2_with fail
        go_region_held_law (fun w' => Below wx.heap.size wx w' ∧ w'.cell? ⟨wq.heap.size, 0, none⟩ = some (.int .i64 x.k) ∧ w'.cell? ⟨wq.heap.size, 1, none⟩ = some (.int .i64 x.n) ∧ w'.cell? ⟨wq.heap.size, 2, none⟩ = some (.string x.name) ∧ w'.cell? ⟨wq.heap.size, 3, none⟩ = some (.string x.label) ∧ w'.cell? ⟨wq.heap.size, 4, none⟩ = some (.int .i64 x.tag) ∧ w'.cell? ⟨wq.heap.size, 5, none⟩ = some (.int .i64 x.kids) ∧ w'.cell? ⟨wq.heap.size, 6, none⟩ = some (.int .i64 x.a) ∧ w'.cell? ⟨g, M.length * 2, none⟩ = some (.int .i64 p.1)) (first | assumption | exact HSS.out _ ((Below.refl _ _).drew) | exact HSS.out _ (Below.refl _ _))
          ((go_at_call 48; refine (HCon.out _).mono ?_; rintro e w2 ⟨rfl, hB2⟩; (have G2 := HSS.out w2 (below_to (by first | assumption | exact And.left (by assumption)) hB2)); (clear hB2)))
        have hB2 := G2.1
        have HS2 := hide_ (HSx.out.later hB2)
        have HK2 := hide_ (KX.out.later hB2)
        have HB2 := hide_ (below_to HBx.out hB2)
        clear hB2 G2 HSS HCon KX HSx HBx HB hb hr
        by_cases hE0 : E = 0
        · subst hE0
          have hkid := ndE_kids (x := x) (of := p.1) (dp := M.length) HE.out
          have hp1 := HO.out.2.2 M p rfl
          have hp2 := HO.out.2.1 p (by simp)
          have HM : Hid (∀ q ∈ M, 0 ≤ q.2 ∧ q.2 ≤ 64) := fun q hq => HO.out.2.1 q (by simp [hq])
          have HO5 : Hid (StOk (wo (M ++ [(p.1, p.2 - 1)] ++ [(x.k, x.kids)]))) := wo_ok (by simp; omega) (fun q hq => by
            simp at hq
            rcases hq with h | rfl | rfl
            · exact HM.out q h
            · show 0 ≤ p.2 - 1 ∧ p.2 - 1 ≤ 64; omega
            · show 0 ≤ x.kids ∧ x.kids ≤ 64; omega)
          have HC5 : Hid (ct (N.drop (i + 1)) (i + 1) (wo (M ++ [(p.1, p.2 - 1)] ++ [(x.k, x.kids)])) = R) := hide_ (by
            have h := HC.out
            unfold ct at h
            rw [HT.out, HE.out, if_pos rfl, HT2.out] at h
            rw [List.append_assoc]
            exact h)
          obtain ⟨t1, t2⟩ := HS2.out.top
          have t3 := HS2.out.1.frozen (M.length * 2 + 1)
          have k3 := HK2.out.other ⟨g, M.length * 2 + 1, none⟩ (.int .i64 (p.2 - 1)) (by show wq.heap.size ≠ g; omega)
          have s3 := HS2.out.dec (p.2 - 1)
          have b3 : Below w.heap.size w (w2.setCell ⟨g, M.length * 2 + 1, none⟩ (.int .i64 (p.2 - 1))) := HB2.out.trans (((Upd.refl (fun k => k = g) w2).set ⟨g, M.length * 2 + 1, none⟩ _ (.inl rfl)).below w.heap.size HB2.out.size (fun k hk => by subst hk; exact hg))
          obtain ⟨w3, hw3⟩ : ∃ w3, w3 = w2.setCell ⟨g, M.length * 2 + 1, none⟩ (.int .i64 (p.2 - 1)) := ⟨_, rfl⟩
          rw [← hw3] at k3 s3 b3
          obtain ⟨gn, capn, w4, r4, o4, u4, c4⟩ := run_pushS (P := Try.prog) (t := 103) (e := 102) (z := .agg #[.int .i64 0, .int .i64 0]) (bytes := 16) Try.underlying103 (by kernel_rfl) rfl (by decide) w3 103 (s3.own (B := w.heap.size) hg) (prc (x.k, x.kids)) rfl (by intro u hu; simp [prc] at hu; rcases hu with rfl | rfl <;> rfl) (by unfold maxLen; simp; omega) (by simp; omega) b3.size
          have hgn : w.heap.size ≤ gn := by
            rcases c4 with h | h
            · have := own_is h; omega
            · exact Nat.le_trans b3.size h
          have b4 : Below w.heap.size w w4 := b3.trans (u4.below w.heap.size b3.size (fun k hk => by have := own_is hk; omega))
          have hl4 : (M ++ [(p.1, p.2 - 1)]).length + 1 = (M ++ [(p.1, p.2 - 1)] ++ [(x.k, x.kids)]).length := by simp
          have ec : cellsP (M ++ [(p.1, p.2 - 1)]) ++ prc (x.k, x.kids) = cellsP (M ++ [(p.1, p.2 - 1)] ++ [(x.k, x.kids)]) := by rw [cellsP_app (M ++ [(p.1, p.2 - 1)])]; simp [cellsP]
          rw [ec, hl4] at o4
          obtain ⟨-, ys4, hs4⟩ := Stk.of_own o4 (by simp)
          have HS4 := hide_ hs4
          have HB4 := hide_ b4
          have r4' : (Builtin.append_ #[103, 103] 103 #[.slice (some ⟨g, 0, none⟩) (M.length + 1) cap, .slice (some ⟨w3.heap.size, 0, none⟩) 1 1]).run Try.prog (w3.alloc (.cells #[.int .i64 x.k, .int .i64 x.kids] 102)) = .ok (.slice (some ⟨gn, 0, none⟩) ((M ++ [(p.1, p.2 - 1)] ++ [(x.k, x.kids)]).length) capn) w4 := by
            rw [hl4] at r4
            have e : (M ++ [(p.1, p.2 - 1)]).length = M.length + 1 := by simp
            rw [e] at r4
            exact r4
          have HR4 := hide_ r4'
          have d0 := k3.cell 0
          have d5 := k3.cell 5
          simp at d0 d5
          clear r4 r4' o4 u4 c4 hs4 b4 b3 s3 k3 hl4 ec HS2 HK2 HB2 HM HO HC HT HT2 HE
          obtain ⟨LL, hLL⟩ : ∃ LL, M ++ [(p.1, p.2 - 1)] ++ [(x.k, x.kids)] = LL := ⟨_, rfl⟩
          rw [hLL] at HR4 HS4 HO5 HC5
          clear hLL
          have hpb : p.2 - 1 ≤ 64 := by omega
          have hpa : 0 ≤ p.2 - 1 := by omega
          go_upto_region 12 with fail
          rw [← hw3]
          clear hw3 t1 t2 t3
          go_wp2_with (first
            | (at_builtin; have _t := HR4; refine wpList_append_run rfl (.tmp 45) (.tmp 51) 103 103 rfl rfl rfl HR4.out ?_; clear HR4)
            | (go_at_call 49; refine (without_any gn capn LL ys4 w4 HS4).mono ?_; rintro e w5 ⟨rfl, HS5, rfl⟩))
          go_roundw
          case rel => exact ⟨i + 1, wo LL, gn, capn, ys4, by omega, rfl, by go_num, hgn, HO5, HS5, HC5, HB4⟩
          case measure => simp [intOf]; omega
        · have hE' : (E != 0) = true := by simpa using hE0
          have HV : Hid (R = ((i : Int), E)) := hide_ (by rw [← HC.out]; unfold ct; rw [HT.out, HE.out, if_neg hE0])
          go_wp2
          go_ret2
          exact ⟨by rw [HV.out]; rfl, HB2.out⟩
    · obtain rfl : i = N.length := by omega
      have hC0 := HC.out
      rw [List.drop_length] at hC0
      rcases List.eq_nil_or_concat L with rfl | ⟨M, p, hM⟩
      · have HV : Hid (R = (0, 0)) := hide_ (by rw [← hC0]; rfl)
        clear hC0
        simp only [List.length_nil]
        go_wp2
        go_ret2
        exact ⟨by rw [HV.out]; rfl, HB.out⟩
      · rw [List.concat_eq_append] at hM
        subst hM
        have HV : Hid (R = ((N.length : Int), 62)) := hide_ (by rw [← hC0]; unfold ct; rw [if_neg (by simp)])
        clear hC0
        have hlen : (M ++ [p]).length = M.length + 1 := by simp
        rw [hlen]
        clear hlen
        have ha : (0 : Int) < (M.length : Int) + 1 := by omega
        go_wp2
        go_ret2
        exact ⟨by rw [HV.out]; rfl, HB.out⟩
end Go.Proofs.Ytiemobmbiomocaa

/- Check. -/
namespace Go.Proofs.Ytiemobmbiomocaa
open Go.RowKit
set_option linter.unusedVariables false

def ckL : List Df → Nat → Int × Int × Int
  | [], i => (0, 0, 0)
  | d :: D, i => if isName d.name = false then ((i : Int), 0, 62) else if (ct d.ty 0 [(0, 1)]).2 = 0 then ckL D (i + 1) else ((i : Int), (ct d.ty 0 [(0, 1)]).1, (ct d.ty 0 [(0, 1)]).2)
def ckP (D : List Df) : Int × Int × Int := if 256 < D.length then (256, 0, 5) else ckL D 0
set_option maxRecDepth 100000 in
set_option maxHeartbeats 8000000 in
theorem check_any (a : Option Addr) (c : Nat) (D : List Df) (w : World) (hL : Hid (Lens D)) (r : Hid (DRow w a D)) :
    Calls Try.prog 13 #[.agg #[.slice a D.length c]] w fun e w' => e = .returned (.tuple #[.int .i64 (ckP D).1, .int .i64 (ckP D).2.1, .int .i64 (ckP D).2.2]) ∧ Below w.heap.size w w' := by
  obtain ⟨R, hR⟩ : ∃ R, ckP D = R := ⟨_, rfl⟩
  have HR := hide_ hR
  rw [hR]
  clear hR
  have hD : D.length ≤ 9223372036854775807 := hL.out.1
  have HK := hide_ (Blk.newA w #[.slice a D.length c] 25)
  have HB0 : Hid (Below w.heap.size w (w.alloc (.cells #[.slice a D.length c] 25))) := (Below.refl _ _).alloc (Nat.le_refl _) _
  by_cases h256 : 256 < D.length
  · have h' : (256 : Int) < D.length := by omega
    have HV : Hid (R = (256, 0, 5)) := hide_ (by rw [← HR.out]; unfold ckP; rw [if_pos h256])
    go_enter Try.func13, Try.ntmps13
    go_wp2
    go_ret3
    exact ⟨by rw [HV.out]; rfl, HB0.out⟩
  have h' : ¬ (256 : Int) < D.length := by omega
  have HC0 : Hid (ckL (D.drop 0) 0 = R) := hide_ (by rw [← HR.out]; unfold ckP; rw [if_neg h256]; rfl)
  go_enter Try.func13, Try.ntmps13
  go_wp2_with fail
  go_loopw [16] (fun x16 wr => ∃ i : Nat, i ≤ D.length ∧ x16 = .int .i64 (i : Int) ∧ Hid (ckL (D.drop i) i = R) ∧ Hid (Below w.heap.size w wr)) (fun x16 _ => D.length - (intOf x16).toNat)
  case atStart => exact ⟨0, Nat.zero_le _, rfl, HC0, HB0⟩
  case round =>
    obtain ⟨i, hi, rfl, HC, HB⟩ := hrel
    generalize wr = wq at *
    clear HC0 HB0 HR HK
    by_cases hlt : i < D.length
    · have hlt' : (i : Int) < D.length := by omega
      obtain ⟨b, o, rfl, hb, hc⟩ := (r.out.later HB.out).open (by omega)
      have hx : D[i]? = some (D[i]'hlt) := List.getElem?_eq_getElem hlt
      obtain ⟨va, vc, hcx, hvc, -, hN⟩ := hc i _ hx
      have hdr : D.drop i = D[i]'hlt :: D.drop (i + 1) := List.drop_eq_getElem_cons hlt
      have hty : (D[i]'hlt).ty.length ≤ 9223372036854775807 := hL.out.2 _ (List.getElem_mem hlt)
      generalize D[i]'hlt = d at *
      rw [hdr] at HC
      have i0 := hcx 0 (by decide); have i1 := hcx 1 (by decide); have i2 := hcx 2 (by decide)
      simp [dfc] at i0 i1 i2
      clear hc hx hcx hdr
      have kx := Blk.newA wq #[.string d.name, .int .i64 d.a, .slice va d.ty.length vc] 39
      have hBx : Below wq.heap.size wq (wq.alloc (.cells #[.string d.name, .int .i64 d.a, .slice va d.ty.length vc] 39)) := (Below.refl _ _).alloc (Nat.le_refl _) _
      obtain ⟨wx, hwx⟩ : ∃ wx, wx = wq.alloc (.cells #[.string d.name, .int .i64 d.a, .slice va d.ty.length vc] 39) := ⟨_, rfl⟩
      rw [← hwx] at kx hBx
      have HN := hide_ (hN.later hBx)
      have HBx := hide_ (below_to HB.out hBx)
      have c0 := kx.cell 0; have c2 := kx.cell 2
      simp at c0 c2
      clear kx hBx hN
      go_upto_region 6 with fail
      rw [← hwx]
      clear hwx i0 i1 i2
      obtain ⟨nm, hnm⟩ : ∃ nm, isName d.name = nm := ⟨_, rfl⟩
      cases nm with
      | false =>
        have HV : Hid (R = ((i : Int), 0, 62)) := hide_ (by rw [← HC.out]; unfold ckL; rw [if_pos hnm])
        go_wp2_with (go_at_call 26; refine (name_any _ _).mono ?_; rintro e w' ⟨rfl, rfl⟩; rw [hnm])
        go_ret3
        exact ⟨by rw [HV.out]; rfl, HBx.out⟩
      | true =>
        obtain ⟨T, hT⟩ : ∃ T, ct d.ty 0 [(0, 1)] = T := ⟨_, rfl⟩
        have HT := hide_ hT
        have HCon := ctype_any va vc d.ty wx hty HN
        rw [hT] at HCon
        have HCon := hide_ HCon
        clear hT
        have HC1 : Hid ((if T.2 = 0 then ckL (D.drop (i + 1)) (i + 1) else ((i : Int), T.1, T.2)) = R) := hide_ (by
          have h := HC.out
          rw [ckL, if_neg (by rw [hnm]; decide), HT.out] at h
          exact h)
        by_cases hE : T.2 = 0
        · have HC2 : Hid (ckL (D.drop (i + 1)) (i + 1) = R) := hide_ (by rw [← HC1.out, if_pos hE])
          obtain ⟨T1, T2⟩ := T
          simp only at hE
          subst hE
          clear HC1 HC HT
          go_wp2_with (first | (go_at_call 26; refine (name_any _ _).mono ?_; rintro e w' ⟨rfl, rfl⟩; rw [hnm]) | (go_at_call 27; refine HCon.out.mono ?_; rintro e w2 ⟨rfl, hB2⟩; (have HB2 := hide_ hB2); (clear hB2)))
          go_roundw
          case rel => exact ⟨i + 1, by omega, by go_num, HC2, hide_ (below_to HBx.out HB2.out)⟩
          case measure => simp [intOf]; omega
        · have HV : Hid (R = ((i : Int), T.1, T.2)) := hide_ (by rw [← HC1.out, if_neg hE])
          obtain ⟨T1, T2⟩ := T
          simp only at hE
          have hE' : (T2 != 0) = true := by simpa using hE
          clear HC1 HC HT
          go_wp2_with (first | (go_at_call 26; refine (name_any _ _).mono ?_; rintro e w' ⟨rfl, rfl⟩; rw [hnm]) | (go_at_call 27; refine HCon.out.mono ?_; rintro e w2 ⟨rfl, hB2⟩; (have HB2 := hide_ hB2); (clear hB2)))
          go_ret3
          exact ⟨by rw [HV.out]; rfl, below_to HBx.out HB2.out⟩
    · obtain rfl : i = D.length := by omega
      have HV : Hid (R = (0, 0, 0)) := hide_ (by rw [← HC.out, List.drop_length]; rfl)
      go_wp2
      go_ret3
      exact ⟨by rw [HV.out]; rfl, HB.out⟩
end Go.Proofs.Ytiemobmbiomocaa

/- What Check takes is a tree; plain. -/
namespace Go.Proofs.Ytiemobmbiomocaa
open Go.RowKit
set_option linter.unusedVariables false

/-- n trees, one behind the other, kids of a node of kind k, d deep; fu: fuel. -/
def Forest : Nat → Nat → Int → Nat → List Nd → Prop
  | 0, _, _, n, N => n = 0 ∧ N = []
  | _ + 1, _, _, 0, N => N = []
  | fu + 1, d, k, n + 1, N => ∃ x A B, N = x :: (A ++ B) ∧ ndE x k d = 0 ∧ Forest fu (d + 1) x.k x.kids.toNat A ∧ Forest fu d k n B
theorem Forest.none (fu d : Nat) (k : Int) : Forest fu d k 0 [] := by
  cases fu with
  | zero => exact ⟨rfl, rfl⟩
  | succ f => exact rfl
theorem ct_cons {x : Nd} {N : List Nd} {i : Nat} {L : List (Int × Int)} (h : ct (x :: N) i L = (0, 0)) : ctE L x = 0 ∧ ct N (i + 1) (ctS L x) = (0, 0) := by
  unfold ct at h
  by_cases h0 : ctE L x = 0
  · rw [if_pos h0] at h; exact ⟨h0, h⟩
  · rw [if_neg h0] at h
    injection h with _ h
    exact absurd h h0
theorem forest_of : ∀ (m : Nat) (N : List Nd), N.length ≤ m → ∀ (i : Nat) (M : List (Int × Int)) (p : Int × Int), 0 < p.2 → ct N i (M ++ [p]) = (0, 0) →
    ∃ A B, N = A ++ B ∧ Forest m M.length p.1 p.2.toNat A ∧ ct B (i + A.length) (wo M) = (0, 0) := by
  intro m
  induction m with
  | zero =>
    intro N hN i M p hp h
    obtain rfl : N = [] := List.eq_nil_of_length_eq_zero (by omega)
    unfold ct at h
    rw [if_neg (by simp)] at h
    injection h with _ h
    cases h
  | succ m ih =>
    intro N hN i M p hp h
    cases N with
    | nil =>
      unfold ct at h
      rw [if_neg (by simp)] at h
      injection h with _ h
      cases h
    | cons x N =>
      obtain ⟨h0, h1⟩ := ct_cons h
      have hE : ctE (M ++ [p]) x = ndE x p.1 M.length := by unfold ctE; simp
      have hS : ctS (M ++ [p]) x = wo (M ++ [(p.1, p.2 - 1)] ++ [(x.k, x.kids)]) := by unfold ctS; simp
      rw [hE] at h0
      rw [hS] at h1
      have hk := ndE_kids h0
      simp only [List.length_cons] at hN
      have key : ∃ A1 B1, N = A1 ++ B1 ∧ Forest m (M.length + 1) x.k x.kids.toNat A1 ∧ ct B1 (i + 1 + A1.length) (wo (M ++ [(p.1, p.2 - 1)])) = (0, 0) := by
        by_cases hk0 : x.kids = 0
        · rw [wo_zero _ _ hk0] at h1
          exact ⟨[], N, rfl, by rw [hk0]; exact Forest.none _ _ _, h1⟩
        · rw [wo_more _ _ hk0] at h1
          obtain ⟨A, B, e1, e2, e3⟩ := ih N (by omega) (i + 1) (M ++ [(p.1, p.2 - 1)]) (x.k, x.kids) (by show 0 < x.kids; omega) h1
          rw [List.length_append] at e2
          exact ⟨A, B, e1, e2, e3⟩
      obtain ⟨A1, B1, rfl, e2, e3⟩ := key
      have hn : p.2.toNat = (p.2 - 1).toNat + 1 := by omega
      by_cases hp1 : p.2 - 1 = 0
      · rw [wo_zero _ _ hp1] at e3
        refine ⟨x :: A1, B1, rfl, ?_, by rw [List.length_cons]; rw [show i + (A1.length + 1) = i + 1 + A1.length by omega]; exact e3⟩
        rw [hn, hp1]
        exact ⟨x, A1, [], by simp, h0, e2, Forest.none _ _ _⟩
      · rw [wo_more _ _ hp1] at e3
        simp only [List.length_append] at hN
        obtain ⟨A2, B2, rfl, e5, e6⟩ := ih B1 (by omega) (i + 1 + A1.length) M (p.1, p.2 - 1) (by show 0 < p.2 - 1; omega) e3
        refine ⟨x :: (A1 ++ A2), B2, by simp, ?_, ?_⟩
        · rw [hn]
          exact ⟨x, A1, A2, rfl, h0, e2, e5⟩
        · rw [List.length_cons, List.length_append, show i + (A1.length + A2.length + 1) = i + 1 + A1.length + A2.length by omega]
          exact e6
theorem tree_of {N : List Nd} (h : ct N 0 [(0, 1)] = (0, 0)) : Forest N.length 0 0 1 N := by
  obtain ⟨A, B, rfl, h2, h3⟩ := forest_of N.length N (Nat.le_refl _) 0 [] (0, 1) (by decide) h
  cases B with
  | nil => rw [List.append_nil] at h2 ⊢; exact h2
  | cons x B =>
    obtain ⟨h4, _⟩ := ct_cons h3
    have : ctE (wo []) x = 62 := rfl
    rw [this] at h4
    cases h4
/-- A source that Check takes. -/
theorem ck_all : ∀ (D : List Df) (i : Nat), (ckL D i).2.2 = 0 → ∀ d ∈ D, isName d.name = true ∧ ct d.ty 0 [(0, 1)] = (0, 0)
  | [], i, h, d, hd => by cases hd
  | e :: D, i, h, d, hd => by
    unfold ckL at h
    by_cases hn : isName e.name = false
    · rw [if_pos hn] at h; cases h
    rw [if_neg hn] at h
    by_cases ht : (ct e.ty 0 [(0, 1)]).2 = 0
    · rw [if_pos ht] at h
      rcases List.mem_cons.1 hd with rfl | hd
      · refine ⟨by simpa using hn, ?_⟩
        have key : ∀ (N : List Nd) (i : Nat) (L : List (Int × Int)), (ct N i L).2 = 0 → ct N i L = (0, 0) := by
          intro N
          induction N with
          | nil =>
            intro i L h
            unfold ct at h ⊢
            by_cases hL : L = []
            · rw [if_pos hL]
            · rw [if_neg hL] at h; cases h
          | cons x N ih =>
            intro i L h
            unfold ct at h ⊢
            by_cases h0 : ctE L x = 0
            · rw [if_pos h0] at h ⊢; exact ih _ _ h
            · rw [if_neg h0] at h; exact absurd h h0
        exact key _ _ _ ht
      · exact ck_all D (i + 1) h d hd
    · rw [if_neg ht] at h; exact absurd h ht
theorem ckP_all {D : List Df} (h : (ckP D).2.2 = 0) : D.length ≤ 256 ∧ ∀ d ∈ D, isName d.name = true ∧ Forest d.ty.length 0 0 1 d.ty := by
  unfold ckP at h
  by_cases hl : 256 < D.length
  · rw [if_pos hl] at h; cases h
  · rw [if_neg hl] at h
    exact ⟨by omega, fun d hd => ⟨(ck_all D 0 h d hd).1, tree_of (ck_all D 0 h d hd).2⟩⟩
end Go.Proofs.Ytiemobmbiomocaa
