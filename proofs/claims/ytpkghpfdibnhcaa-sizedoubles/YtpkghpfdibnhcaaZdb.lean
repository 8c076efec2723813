/- SizeDoubles: the walk. -/
import Derived.Test.YtpkghpfdibnhcaaZz
namespace Go.Proofs.Ytpkghpfdibnhcaa
open Go.RowKit
set_option linter.unusedVariables false

theorem extL_app (A B : List Ty) : ∃ Z, extL (A ++ B) = extL A ++ Z := by
  refine snoc_ind (P := fun B => ∃ Z, extL (A ++ B) = extL A ++ Z) ⟨[], by simp⟩ (fun B t ih => ?_) B
  obtain ⟨Z, hZ⟩ := ih
  exact ⟨Z ++ [ext1 (extL (A ++ B)) t], by rw [← List.append_assoc, extL_snoc, ← List.append_assoc, ← hZ]⟩
theorem extL_take (T : List Ty) (m : Nat) (hm : m ≤ T.length) : extL (T.take m) = (extL T).take m := by
  obtain ⟨Z, hZ⟩ := extL_app (T.take m) (T.drop m)
  rw [List.take_append_drop] at hZ
  have hl : (extL (T.take m)).length = m := by rw [extL_len]; simp; omega
  rw [hZ]
  generalize extL (T.take m) = Y at *
  subst hl
  simp
theorem OkS.take {T : List Ty} (h : OkS T []) (m : Nat) (hm : m ≤ T.length) : OkS (T.take m) [] := by
  have e : ∀ j, j < m → (T.take m).getD j ty0 = T.getD j ty0 := fun j hj => by simp [List.getD, hj]
  refine ⟨fun j hj => ?_, fun j hj => ?_, fun j hj => by simp at hj⟩
  · have hj' : j < m := by simp at hj; omega
    rw [e j hj']
    exact h.ty j (by omega)
  · have hj' : j < m := by simp at hj; omega
    rw [depL_take T hj' hm]
    exact h.dep j (by omega)
theorem db_ok {n : Nat} (hn : n ≤ 63) (st : Bool) : OkS (dbT n st) [] := by
  rw [dbT_take hn]
  exact (okS_of (by rw [db_chk])).take (n + 1) (by rw [dbT_len]; omega)
def dbX (st : Bool) (i : Nat) : Ex := if st then ⟨true, two i, two i, 1 + (i : Int)⟩ else ⟨decide (i = 0), 1 + (i : Int), 1 + (i : Int), 1 + (i : Int)⟩
theorem db_at {n : Nat} (hn : n ≤ 63) (st : Bool) {i : Nat} (hi : i ≤ n) : (extL (dbT n st))[i]? = some (dbX st i) := by
  rw [dbT_take hn, extL_take _ _ (by rw [dbT_len]; omega), List.getElem?_take, if_pos (by omega)]
  cases st with
  | false => rw [db_extU, List.getElem?_map, List.getElem?_range (by omega)]; rfl
  | true => rw [db_extS, List.getElem?_map, List.getElem?_range (by omega)]; rfl
theorem db_lens (n : Nat) (hn : n ≤ 63) (st : Bool) : LensT (dbT n st) := by
  refine ⟨by rw [dbT_len]; omega, fun t ht => ?_⟩
  simp only [dbT, List.mem_cons, List.mem_map] at ht
  rcases ht with rfl | ⟨i, _, rfl⟩
  · simp
  · unfold db1; cases st <;> simp
def OfD (n : Nat) (st : Bool) (w : World) (e : Ending) (w' : World) : Prop := ∃ g cap, e = .returned (.tuple #[.slice (some ⟨g, 0, none⟩) (n + 1) cap, .int .i64 0]) ∧ Hid (XRow w' (some ⟨g, 0, none⟩) (extL (dbT n st))) ∧ Hid (Below w.heap.size w w')
theorem ofD_any {n : Nat} (hn : n ≤ 63) (st : Bool) (a : Option Addr) (c : Nat) (w : World) (hT : Hid (TRow w a (dbT n st))) :
    Calls Try.prog 10 #[.agg #[.slice a (dbT n st).length c, .slice none 0 0]] w fun e w' => OfD n st w e w' := by
  refine (of_any a c (dbT n st) none 0 [] w (by rw [dbT_len]; omega) (by decide) (hide_ (db_lens n hn st)) hT (hide_ (.inl rfl))).mono ?_
  rintro e w' (⟨hne, -, -⟩ | ⟨-, v, rfl, hX, hB⟩)
  · rw [(db_ok hn st).chk] at hne; exact absurd rfl hne
  · have hl : (extL (dbT n st)).length = n + 1 := by rw [extL_len, dbT_len]
    obtain ⟨g, cap, ys, rfl, -, -, -, -, -, -⟩ := ownS_blk hX (by rw [hl]; omega)
    obtain ⟨a2, c2, e2, -, -, hrow⟩ := hX.row
    injection e2 with e2 _ _
    subst e2
    exact ⟨g, cap, by rw [hl], hide_ hrow, hide_ hB⟩
theorem two_succ : ∀ i, i < 64 → two (i + 1) = if two i < 4611686018427387904 then 2 * two i else two i := by decide +kernel
theorem two_bd : ∀ i, i < 65 → 0 ≤ two i ∧ two i ≤ 4611686018427387904 := by decide +kernel
set_option maxRecDepth 100000 in
set_option maxHeartbeats 4000000 in
theorem rest64_any (n : Int) (w : World) : Calls Try.prog 9 #[.int .i64 n, .int .i64 64] w fun e w' => ∃ m : Nat, e = .returned (.int .i64 (m : Int)) ∧ m ≤ 63 ∧ w = w' := by
  have a1 : n.tmod 64 < 64 := Int.tmod_lt_of_pos n (by omega)
  have a2 : -64 < n.tmod 64 := Int.lt_tmod_of_pos n (by omega)
  obtain ⟨q, hq⟩ : ∃ q, n.tmod 64 = q := ⟨_, rfl⟩
  rw [hq] at a1 a2
  have e1 : wrap64 (q + 64) = q + 64 := w64 _ (by omega)
  obtain ⟨m, hm⟩ := Int.eq_ofNat_of_zero_le (show 0 ≤ (q + 64).tmod 64 from Int.tmod_nonneg _ (by omega))
  have hml : m ≤ 63 := by
    have : (q + 64).tmod 64 < 64 := Int.tmod_lt_of_pos _ (by omega)
    omega
  go_enter Try.func9, Try.ntmps9
  go_wp2
  go_ret
  exact ⟨m, by first | rfl | (simp only [hq, e1, hm]; rfl), hml, rfl⟩
set_option maxRecDepth 100000 in
set_option maxHeartbeats 8000000 in
theorem sizeDoubles_any (n : Int) (w : World) : Calls Try.prog 3 #[.int .i64 n] w fun e w' => e = .returned (.bool true) ∧ Below w.heap.size w w' := by
  go_enter Try.func3, Try.ntmps3
  go_wp2_with fail
  refine (awake_any w).mono ?_
  rintro e w1 ⟨rfl, hB1⟩
  have HB1 := hide_ hB1
  clear hB1
  go_wp2_with fail
  refine (rest64_any n w1).mono ?_
  rintro e w' ⟨m, rfl, hm, rfl⟩
  go_wp2_with fail
  refine (doublesU_any m w1 hm).mono ?_
  rintro e w2 ⟨a2, c2, rfl, HT2, HB2⟩
  go_wp2_with fail
  refine (ofD_any hm false a2 c2 w2 HT2).mono ?_
  rintro e w3 ⟨g3, c3, rfl, HX3, HB3⟩
  go_wp2_with fail
  refine (doublesS_any m w3 hm).mono ?_
  rintro e w4 ⟨a4, c4, rfl, HT4, HB4⟩
  go_wp2_with fail
  refine (ofD_any hm true a4 c4 w4 HT4).mono ?_
  rintro e w5 ⟨g5, c5, rfl, HX5, HB5⟩
  have HXu := hide_ (HX3.out.later (below_to HB4.out HB5.out))
  have HB := hide_ (below_to HB1.out (below_to (below_to HB2.out HB3.out) (below_to HB4.out HB5.out)))
  clear HT2 HT4 HB1 HB2 HB3 HB4 HB5 HX3
  have hw1 : wrap64 ((m : Int) + 1) = (m : Int) + 1 := w64 _ (by omega)
  go_wp2_with (go_at_call 12; refine (num_any _ _).mono ?_; rintro e w' ⟨rfl, rfl⟩)
  go_loopw [7, 8] (fun x7 x8 wr => ∃ (i : Nat) (t : Int), i ≤ m + 1 ∧ x8 = .int .i64 (i : Int) ∧ x7 = .int .i64 t ∧ Hid (two i = t) ∧ w5 = wr) (fun _ x8 _ => m + 1 - (intOf x8).toNat)
  case atStart => exact ⟨0, 1, Nat.zero_le _, rfl, rfl, hide_ (by decide), rfl⟩
  case round =>
    obtain ⟨i, t, hi, rfl, rfl, HTw, rfl⟩ := hrel
    by_cases hlt : i ≤ m
    · have hlt' : (i : Int) ≤ m := by omega
      have hlt2 : (i : Int) < (m : Int) + 1 := by omega
      have hlt3 : ¬ (m : Int) < i := by omega
      obtain ⟨bu, ou, hau, -, hcu⟩ := HXu.out.open (by rw [extL_len, dbT_len]; omega)
      obtain ⟨bs, os, has, -, hcs⟩ := HX5.out.open (by rw [extL_len, dbT_len]; omega)
      injection hau with hau
      injection hau with e1 e2 _
      subst e1 e2
      injection has with has
      injection has with e3 e4 _
      subst e3 e4
      have u1 := hcu i _ (db_at hm false hlt) 1 (by decide); have u2 := hcu i _ (db_at hm false hlt) 2 (by decide); have u3 := hcu i _ (db_at hm false hlt) 3 (by decide)
      have s0 := hcs i _ (db_at hm true hlt) 0 (by decide); have s2 := hcs i _ (db_at hm true hlt) 2 (by decide)
      simp [exc, dbX] at u1 u2 u3 s0 s2
      rw [HTw.out] at s2
      have htb := two_bd i (by omega)
      have HT2 := hide_ (two_succ i (by omega))
      rw [HTw.out] at htb HT2
      have hw2 : wrap64 (1 + (i : Int)) = 1 + (i : Int) := w64 _ (by omega)
      clear hcu hcs
      by_cases hh : t < 4611686018427387904
      · rw [if_pos hh] at HT2
        have hb2 := two_bd (i + 1) (by omega)
        rw [HT2.out] at hb2
        have hw3 : wrap64 (2 * t) = 2 * t := w64 _ (by omega)
        go_wp2_with fail
        go_roundw
        case rel => exact ⟨i + 1, _, by omega, by go_num, rfl, HT2, trivial⟩
        case measure => simp [intOf]; omega
      · rw [if_neg hh] at HT2
        go_wp2_with fail
        go_roundw
        case rel => exact ⟨i + 1, _, by omega, by go_num, rfl, HT2, trivial⟩
        case measure => simp [intOf]; omega
    · have hlt3 : (m : Int) < i := by omega
      go_wp2
      go_ret
      exact ⟨rfl, HB.out⟩
end Go.Proofs.Ytpkghpfdibnhcaa
