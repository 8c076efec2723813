import Derived.Test.YtjamfbpdepahnaaGreatPart23
namespace Go.Proofs.YtjamfbpdepahnaaGreat
open Go.RowKit
set_option linter.unusedVariables false
set_option linter.unusedSimpArgs false
theorem fillP_tpl (s : St) (kid : Int) : (fillP s kid).1.tb = s.tb ∧ (fillP s kid).1.pa = s.pa ∧ (fillP s kid).1.le = s.le := by
  unfold fillP
  repeat' split
  all_goals exact ⟨rfl, rfl, rfl⟩
theorem fillR_tpl : ∀ (n : Nat) (s : St) (kid : Int), (fillR s kid n).1.tb = s.tb ∧ (fillR s kid n).1.pa = s.pa ∧ (fillR s kid n).1.le = s.le
  | 0, s, kid => ⟨rfl, rfl, rfl⟩
  | n + 1, s, kid => by
    have h := fillP_tpl s kid
    rw [fillR]
    split
    · have h2 := fillR_tpl n (fillP s kid).1 (kid + 1)
      exact ⟨h2.1.trans h.1, h2.2.1.trans h.2.1, h2.2.2.trans h.2.2⟩
    · exact h
theorem fill_sok {s : St} (hs : SOk s) {kid : Int} (hk : -1 ≤ kid ∧ kid ≤ 63) : SOk (fillP s kid).1 := by
  obtain ⟨h1, h2, h3⟩ := fillP_tpl s kid
  exact ⟨fillP_ki s kid hk hs.ki, by rw [h1]; exact hs.tb, by rw [h2]; exact hs.pa, by rw [h3]; exact hs.le⟩
theorem dHd_ok {s : St} {x : In} {r : Int} (hs : SOk s) (hx : DOk x) (h : dSt s x r = true) (way : Int) : SOk (dHd s x way) := by
  have hs1 := hs.ki; have hs2 := hs.tb; have hs3 := hs.pa; have hs4 := hs.le
  unfold dHd
  by_cases h19 : x.op = 19
  · rw [if_pos h19]; exact hs
  rw [if_neg h19]
  by_cases h17 : x.op = 17
  · rw [if_pos h17]
    by_cases ha : x.a = -1
    · rw [if_pos ha]; exact ⟨hs1, hs2, hs3, hs4⟩
    · rw [if_neg ha]
      have h2 : s.pl = 3 ∧ x.b = s.pa ∧ x.b < s.tb := by
        unfold dSt at h
        rw [if_pos h17, if_neg ha] at h
        by_cases hq : s.pl ≠ 3 ∨ x.b ≠ s.pa ∨ s.tb ≤ x.b
        · rw [if_pos hq] at h; cases h
        · omega
      exact fill_sok (s := ⟨s.pl, s.ki, s.tb, s.pa + 1, s.fr, s.le, s.su⟩) ⟨hs1, hs2, by show 0 ≤ s.pa + 1 ∧ s.pa + 1 ≤ 64; omega, hs4⟩ (hx.kid (by omega))
  rw [if_neg h17]
  by_cases h1 : x.op = 1 ∨ x.op = 3 ∨ x.op = 4 ∨ x.op = 16
  · rw [if_pos h1]; exact fill_sok hs (hx.kid (by omega))
  rw [if_neg h1]
  by_cases h2 : x.op = 2
  · rw [if_pos h2]
    obtain ⟨a1, a2, a3⟩ := hx.run h2
    obtain ⟨b1, b2, b3⟩ := fillR_tpl x.b.toNat s x.a
    exact ⟨fillR_ki x.b.toNat s x.a a1 (by omega) hs1, by rw [b1]; exact hs2, by rw [b2]; exact hs3, by rw [b3]; exact hs4⟩
  rw [if_neg h2]
  by_cases h5 : x.op = 5
  · rw [if_pos h5]; exact ⟨by show (0 : Nat) < _; omega, hs2, hs3, hs4⟩
  rw [if_neg h5]
  by_cases h6 : x.op = 6
  · rw [if_pos h6]; exact ⟨by show (0 : Nat) < _; omega, hs2, hs3, hs4⟩
  rw [if_neg h6]
  by_cases h7 : x.op = 7 ∨ x.op = 8
  · rw [if_pos h7]; exact ⟨by show (0 : Nat) < _; omega, hs2, hs3, hs4⟩
  rw [if_neg h7]
  by_cases h10 : x.op = 10 ∨ x.op = 11
  · rw [if_pos h10]
    refine ⟨hs1, ?_, hs3, hs4⟩
    show -1 ≤ tabP s x way ∧ tabP s x way ≤ 64
    unfold tabP
    split
    · exact hs2
    split
    · rename_i hq
      have h2 : s.tb < 64 := by
        unfold dSt at h
        rw [if_neg h17, if_neg (by omega), if_neg (by omega), if_neg h2, if_neg (by omega), if_pos hq.1] at h
        unfold hasP at h
        rw [if_pos hq.2] at h
        simp at h
        exact h.2
      omega
    · omega
  rw [if_neg h10]
  exact ⟨hs1, hs2, hs3, hs4⟩
theorem left_sok {n : Int} (h : 0 ≤ n ∧ n ≤ 64) : SOk (leftP n) := ⟨by show (0 : Nat) < _; omega, by show -1 ≤ (0 : Int) ∧ (0 : Int) ≤ 64; omega, by show (0 : Int) ≤ 0 ∧ (0 : Int) ≤ 64; omega, h⟩
theorem seq_sok (b : Bool) : SOk (seqP b) := ⟨by show (0 : Nat) < _; omega, by show -1 ≤ (0 : Int) ∧ (0 : Int) ≤ 64; omega, by show (0 : Int) ≤ 0 ∧ (0 : Int) ≤ 64; omega, by show (0 : Int) ≤ 0 ∧ (0 : Int) ≤ 64; omega⟩
theorem take_sok {s : St} (hs : SOk s) {m : Int} (hm : 0 ≤ m) (h : (takeP s m).2 = true) : SOk (takeP s m).1 := by
  have hs1 := hs.ki; have hs2 := hs.tb; have hs3 := hs.pa; have hs4 := hs.le
  unfold takeP at h ⊢
  split at h
  · rename_i hq; rw [if_pos hq]; exact left_sok (by omega)
  · rename_i hq
    rw [if_neg hq]
    split at h
    · rename_i hq2
      rw [if_pos hq2]
      have : 0 ≤ s.le - m := by simpa using h
      exact ⟨hs1, hs2, hs3, by show 0 ≤ s.le - m ∧ s.le - m ≤ 64; omega⟩
    · cases h
theorem turn_sok {s : St} (hs : SOk s) : SOk (turnP s).1 := ⟨hs.ki, hs.tb, hs.pa, hs.le⟩
theorem taken_sok {s : St} (hs : SOk s) {x : In} (hx : x.op = 34 → 0 ≤ x.b) (h : (takenP s x).2 = true) : SOk (takenP s x).1 := by
  unfold takenP at h ⊢
  split at h
  · rename_i hq; rw [if_pos hq]; exact take_sok hs (hx hq) h
  · rename_i hq; rw [if_neg hq]
    split at h
    · rename_i hq; rw [if_pos hq]
      split at h
      · rename_i hq; rw [if_pos hq]; exact turn_sok hs
      · rename_i hq; rw [if_neg hq]; exact take_sok hs (by omega) h
    · rename_i hq; rw [if_neg hq]
      split at h
      · rename_i hq; rw [if_pos hq]; exact turn_sok hs
      · rename_i hq; rw [if_neg hq]
        split at h
        · rename_i hq; rw [if_pos hq]; exact turn_sok hs
        · rename_i hq; rw [if_neg hq]; exact take_sok hs (by omega) h
theorem eHd_ok {s : St} {x : In} {r : Int} (hs : SOk s) (hx : XOk true x) (h : eSt s x r = true) (way : Int) : SOk (eHd s x way) := by
  unfold eHd
  by_cases h1 : x.op = 44 ∨ x.op = 45 ∨ x.op = 46 ∨ x.op = 33 ∨ x.op = 34 ∨ x.op = 35 ∨ x.op = 36
  · rw [if_pos h1]
    have h2 : (takenP s x).2 = true := by
      unfold eSt at h
      split at h
      · split at h
        · cases h
        · exact h
      · rw [if_pos (by omega)] at h; exact h
    exact taken_sok hs (fun e => (hx.e e).1) h2
  rw [if_neg h1]
  split
  · exact seq_sok _
  split
  · rename_i hq; exact left_sok (hx.f hq)
  split
  · split <;> exact left_sok (by omega)
  split
  · exact left_sok (by omega)
  split
  · split
    · exact seq_sok _
    · exact left_sok (by omega)
  · exact hs
theorem mHd_ok {enc : Bool} {s : St} {x : In} {r : Int} (hs : SOk s) (hx : XOk enc x) (h : mSt enc s x r = true) (way : Int) : SOk (mHd enc s x way) := by
  cases enc
  · exact dHd_ok hs (hx.d rfl) h way
  · exact eHd_ok hs hx h way
theorem mBg_ok (enc : Bool) : SOk (mBg enc) := by
  cases enc
  · exact ⟨by show (0 : Nat) < _; omega, by show -1 ≤ (0 : Int) ∧ (0 : Int) ≤ 64; omega, by show (0 : Int) ≤ 0 ∧ (0 : Int) ≤ 64; omega, by show (0 : Int) ≤ 0 ∧ (0 : Int) ≤ 64; omega⟩
  · exact ⟨by show (0 : Nat) < _; omega, by show -1 ≤ (0 : Int) ∧ (0 : Int) ≤ 64; omega, by show (0 : Int) ≤ 0 ∧ (0 : Int) ≤ 64; omega, by show (0 : Int) ≤ 0 ∧ (0 : Int) ≤ 64; omega⟩
theorem st0_ok : SOk st0 := ⟨by show (0 : Nat) < _; omega, by show -1 ≤ (0 : Int) ∧ (0 : Int) ≤ 64; omega, by show (0 : Int) ≤ 0 ∧ (0 : Int) ≤ 64; omega, by show (0 : Int) ≤ 0 ∧ (0 : Int) ≤ 64; omega⟩
def SAll (S : List St) : Prop := ∀ j, SOk (stA S j)
theorem SAll.set {S : List St} (h : SAll S) (k : Nat) {s : St} (hs : SOk s) : SAll (S.set k s) := fun j => by
  by_cases hk : k < S.length
  · rw [stA_set hk s j]
    split
    · exact hs
    · exact h j
  · rw [List.set_eq_of_length_le (by omega)]; exact h j
theorem handP_sok {enc : Bool} {C : List In} {r : Int} {S : List St} {P : List Int} (h : SAll S) (k : Nat) {s : St} (hs : SOk s) : SAll (handP enc C r S P k s).2.1 := by
  unfold handP
  split
  · exact h
  split
  · exact h.set k hs
  · exact h
theorem frm_inA {enc : Bool} {C : List In} {ne k : Nat} (hk : k < C.length) (h : frm enc C ne k = true) : frmX enc C.length ne (inA C k) = true ∧ agr (inA C k) (C.drop (k + 1)) = true := by
  have hx : C[k]? = some (C[k]) := List.getElem?_eq_getElem hk
  have hA := inA_at hx
  unfold frm at h
  rw [hx] at h
  simp only [Bool.and_eq_true] at h
  rw [hA]
  exact h
theorem alw_b {nc ne k n : Int} (h : alw nc ne k n = true) : (bnd nc ne k).1 ≤ n ∧ n ≤ (bnd nc ne k).2 := by
  unfold alw at h
  rw [Bool.and_eq_true] at h
  exact of_decide_eq_true h.1
theorem Chk.cdok {enc : Bool} {C : List In} {E : List Int} (h : Chk enc C E) : CdOk enc C := by
  refine ⟨h.nc, fun k hk => ?_, fun k hk ho => ?_⟩
  · obtain ⟨h1, h2⟩ := frm_inA hk (h.code k hk)
    unfold frmX at h1
    simp only [Bool.and_eq_true] at h1
    obtain ⟨-, ha, hb, hc⟩ := h1
    have ha := alw_b ha
    have hb := alw_b hb
    refine ⟨fun _ => ⟨fun ho => ?_, fun ho => ?_⟩, fun ho => ?_, fun ho => ?_⟩
    · rcases ho with ho | ho | ho | ho | ho <;> (rw [ho] at ha; exact ha)
    · rw [ho] at ha hb
      unfold agr at h2
      rw [if_pos ho] at h2
      have h2 := of_decide_eq_true h2
      have ha : 0 ≤ (inA C k).a ∧ (inA C k).a ≤ 63 := ha
      have hb : 2 ≤ (inA C k).b ∧ (inA C k).b ≤ 64 := hb
      omega
    · rw [ho] at hb
      have hb : 2 ≤ (inA C k).b ∧ (inA C k).b ≤ 64 := hb
      omega
    · rw [ho] at ha
      have ha : 1 ≤ (inA C k).a ∧ (inA C k).a ≤ 64 := ha
      omega
  · obtain ⟨h1, h2⟩ := frm_inA hk (h.code k hk)
    unfold frmX at h1
    simp only [Bool.and_eq_true] at h1
    have ha := alw_b h1.2.1
    have ha : 1 ≤ (inA C k).a ∧ (inA C k).a ≤ 64 := by rcases ho with ho | ho <;> (rw [ho] at ha; exact ha)
    have h3 : agr (inA C k) (C.drop (k + 1)) = arms (C.drop (k + 1)) (inA C k).a := by
      unfold agr
      rw [if_neg (by omega), if_neg (by omega), if_neg (by omega), if_pos ho]
    rw [h3] at h2
    unfold arms at h2
    rw [Bool.and_eq_true] at h2
    have h4 := of_decide_eq_true h2.1
    rw [List.length_drop] at h4
    omega
theorem Chk.win {enc : Bool} {C : List In} {E : List Int} (h : Chk enc C E) : WIn C := by
  intro k hk y hy
  have hT : ∀ j, j < C.length → (inA C j).op = 7 ∨ (inA C j).op = 9 ∨ (inA C j).op = 11 ∨ (inA C j).op = 12 ∨ (inA C j).op = 13 ∨ (inA C j).op = 14 ∨ (inA C j).op = 15 ∨ (inA C j).op = 19 ∨ (inA C j).op = 40 ∨ (inA C j).op = 47 → 0 ≤ (inA C j).b ∧ (inA C j).b < (C.length : Int) := by
    intro j hj ho
    obtain ⟨h1, h2⟩ := frm_inA hj (h.code j hj)
    unfold frmX at h1
    simp only [Bool.and_eq_true] at h1
    have hb := alw_b h1.2.2.1
    have hb : 0 ≤ (inA C j).b ∧ (inA C j).b ≤ (C.length : Int) - 1 := by
      rcases ho with ho | ho | ho | ho | ho | ho | ho | ho | ho | ho <;> (rw [ho] at hb; exact hb)
    omega
  unfold waysP at hy
  split at hy
  · rename_i ho
    rw [List.mem_singleton] at hy
    have := hT k hk (by omega)
    omega
  split at hy
  · cases hy
  split at hy
  · rename_i ho
    obtain ⟨j, hj, rfl⟩ := List.mem_map.1 hy
    rw [List.mem_range] at hj
    have ha := (h.cdok).arm k hk ho
    have hj2 : k + 1 + j < C.length := by omega
    have h9 : (inA C (k + 1 + j)).op = 9 := by
      obtain ⟨h1, h2⟩ := frm_inA hk (h.code k hk)
      have h3 : agr (inA C k) (C.drop (k + 1)) = arms (C.drop (k + 1)) (inA C k).a := by
        unfold agr
        rw [if_neg (by omega), if_neg (by omega), if_neg (by omega), if_pos ho]
      rw [h3] at h2
      unfold arms at h2
      rw [Bool.and_eq_true, List.all_eq_true] at h2
      have h4 := h2.2 j (List.mem_range.2 hj)
      unfold armOk at h4
      rw [List.getElem?_drop, List.getElem?_eq_getElem hj2] at h4
      simp only [Bool.and_eq_true, beq_iff_eq] at h4
      rw [inA_at (List.getElem?_eq_getElem hj2)]
      exact h4.1
    have := hT (k + 1 + j) hj2 (by omega)
    omega
  split at hy
  · rename_i ho
    simp only [List.mem_cons, List.not_mem_nil, or_false] at hy
    rcases hy with rfl | rfl
    · omega
    · have := hT k hk (by omega)
      omega
  · rw [List.mem_singleton] at hy
    omega
end Go.Proofs.YtjamfbpdepahnaaGreat
