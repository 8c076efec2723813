/- A reader's state, step by step; Byte at any state; Load. -/
import Derived.Test.YtgeabhnfkkkbgaaE
namespace Go.Proofs.Ytgeabhnfkkkbgaa
open Go.RowKit
set_option linter.unusedVariables false

/-- What was taken; is it over? -/
abbrev St : Type := List Int × Bool
def nextS (st : St) (c : Int) : St := if st.2 then st else if flt st.1.length c then (st.1, true) else (st.1 ++ [c], decide (c < 128))
def doneS (st : St) (c : Int) : Bool := !st.2 && (!flt st.1.length c && decide (c < 128))
def errS (st : St) (c : Int) : Int := if st.2 then 30 else if flt st.1.length c then 21 else 0
def TkS (st : St) : Prop := TkN st.1 ∧ (st.2 = false → Good st.1 st.1.length)
theorem TkS.start : TkS ([], false) := by
  refine ⟨⟨?_, ?_, ?_⟩, fun _ => Good.zero []⟩
  · intro x hx
    simp at hx
  · exact Nat.zero_le _
  · intro h
    cases h
theorem getD_snoc (l : List Int) (c : Int) : (l ++ [c]).getD l.length 0 = c := by simp [List.getD]
theorem TkS.next {st : St} (h : TkS st) (c : Int) (h0 : 0 ≤ c) (h1 : c ≤ 255) : TkS (nextS st c) := by
  obtain ⟨l, ov⟩ := st
  obtain ⟨⟨a1, a2, a3⟩, hg⟩ := h
  simp only at a1 a2 a3 hg
  cases ov with
  | true => exact ⟨⟨a1, a2, a3⟩, fun h => by cases h⟩
  | false =>
    have hg := hg rfl
    unfold nextS
    simp only [Bool.false_eq_true, if_false]
    by_cases hf : flt l.length c = true
    · rw [if_pos hf]
      exact ⟨⟨a1, a2, a3⟩, fun h => by cases h⟩
    · rw [if_neg hf]
      have hf' := (flt_no l.length c).1 (by simpa using hf)
      have h9 := hg.1
      refine ⟨⟨a1.append (fun x hx => by simp at hx; subst hx; exact ⟨h0, h1⟩), by simp; omega, fun h10 => ?_⟩, fun h => ?_⟩
      · have e : l.length = 9 := by simpa using h10
        have := getD_snoc l c
        rw [e] at this
        simp only
        rw [this]
        omega
      · have h128 : 128 ≤ c := by simpa using h
        simp only [List.length_append, List.length_cons, List.length_nil]
        have hn : Good (l ++ [c]) l.length := ⟨h9, by simp, fun j hj => by rw [getD_app_left _ _ _ hj]; exact hg.2.2 j hj⟩
        exact hn.next (by simp) (by rw [getD_snoc]; simpa using hf) (by rw [getD_snoc]; exact h128)
theorem byte_any (b : Nat) (st : St) (c : Int) (w : World) (h : Rdr w b st.1 st.2) (ht : TkS st) :
    Calls Try.prog 18 #[.pointer (some ⟨b, 0, none⟩), .int .u8 c] w fun e w' => e = .returned (.tuple #[.bool (doneS st c), .int .i64 (errS st c)]) ∧ Rdr w' b (nextS st c).1 (nextS st c).2 ∧ w'.heap.size = w.heap.size ∧ Upd (fun k => k = b) w w' := by
  obtain ⟨l, ov⟩ := st
  have hl := ht.1.2.1
  simp only at h hl
  cases ov with
  | true =>
    refine (byte_over b l c w h hl).mono ?_
    rintro e w' ⟨rfl, rfl⟩
    exact ⟨rfl, h, rfl, Upd.refl _ _⟩
  | false =>
    have hg := (ht.2 rfl).1
    simp only at hg
    by_cases hf : flt l.length c = true
    · refine (byte_fault b l c w h hg hf).mono ?_
      rintro e w' ⟨rfl, h1, h2, h3⟩
      refine ⟨by simp [doneS, errS, hf], ?_, h2, h3⟩
      simp only [nextS, hf, Bool.false_eq_true, if_false, if_true]
      exact h1
    · have hf' : flt l.length c = false := by simpa using hf
      refine (byte_take b l c w h hg hf').mono ?_
      rintro e w' ⟨rfl, h1, h2, h3⟩
      refine ⟨by simp [doneS, errS, hf'], ?_, h2, h3⟩
      simp only [nextS, hf', Bool.false_eq_true, if_false]
      exact h1

/-- Byte of each, up to the first error. -/
def ldS : St → List Int → St × Int
  | st, [] => (st, 0)
  | st, c :: l => if errS st c = 0 then ldS (nextS st c) l else (nextS st c, errS st c)
theorem ldS_nil (st : St) : ldS st [] = (st, 0) := rfl
theorem ldS_go (st : St) (c : Int) (l : List Int) (h : errS st c = 0) : ldS st (c :: l) = ldS (nextS st c) l := by rw [ldS, if_pos h]
theorem ldS_stop (st : St) (c : Int) (l : List Int) (h : ¬ errS st c = 0) : ldS st (c :: l) = (nextS st c, errS st c) := by rw [ldS, if_neg h]
theorem errS_or (st : St) (c : Int) : errS st c = 0 ∨ errS st c = 21 ∨ errS st c = 30 := by unfold errS; split; simp; split <;> simp

set_option maxHeartbeats 1000000 in
theorem load_any (a : Option Addr) (m cap : Nat) (l : List Int) (w : World) (hl : l.length = m) (hm : m ≤ maxLen) (hrow : Row .u8 w a l) (hb : Bys l) :
    Calls Try.prog 15 #[.slice a m cap] w fun e w' => Below w.heap.size w w' ∧
      ((∃ b st, ldS ([], false) l = (st, 0) ∧ e = .returned (.tuple #[.pointer (some ⟨b, 0, none⟩), .int .i64 0]) ∧ w.heap.size ≤ b ∧ Rdr w' b st.1 st.2 ∧ TkS st) ∨
       (∃ st r, ldS ([], false) l = (st, r) ∧ r ≠ 0 ∧ e = .returned (.tuple #[.pointer none, .int .i64 r]))) := by
  unfold maxLen at hm
  have HR : Hid (Row .u8 w a l) := hrow
  have HL : Hid (l.length = m) := hl
  have HBy : Hid (Bys l) := hb
  clear hrow hl hb
  go_enter Try.func15, Try.ntmps15
  go_wp2_with (go_at_call 14; refine (new_any _).mono ?_; rintro e w1 ⟨b, rfl, hb1, HR1, hB1⟩)
  have HR1 : Hid (Rdr w1 b [] false) := HR1
  go_loopw [12] (fun i wr => ∃ (k : Nat) (st : St), k ≤ m ∧ i = .int .i64 k ∧ Hid (Rdr wr b st.1 st.2) ∧ Hid (TkS st) ∧ Hid (ldS ([], false) l = ldS st (l.drop k)) ∧ Below w.heap.size w wr) (fun i _ => m - (intOf i).toNat)
  case atStart => exact ⟨0, ([], false), Nat.zero_le _, rfl, HR1, TkS.start, rfl, hB1⟩
  case round =>
    obtain ⟨k, st, hk, rfl, HRd, HT, HD, hBk⟩ := hrel
    by_cases hlt : k < m
    · have hlt' : (k : Int) < m := by omega
      obtain ⟨bb, off, rfl, hbw, hcs⟩ := HR.out.open (by have := HL.out; omega)
      have hc := hcs k (by have := HL.out; omega)
      rw [← hBk.cell (p := ⟨bb, off + k, none⟩) hbw] at hc
      clear hcs
      have hby := HBy.out.at k
      have HD2 : Hid (l.drop k = l.getD k 0 :: l.drop (k + 1)) := drop_cons l k (by have := HL.out; omega)
      generalize l.getD k 0 = c at *
      obtain ⟨hby0, hby1⟩ := hby
      by_cases he : errS st c = 0
      · go_wp2_with (go_at_call 18; refine (byte_any b st c _ HRd.out HT.out).mono ?_; rintro e w2 ⟨rfl, HR2, hs2, hU2⟩; have HR2 : Hid (Rdr w2 b (nextS st c).1 (nextS st c).2) := HR2)
        go_roundw
        case rel =>
          refine ⟨k + 1, nextS st c, by omega, by go_num, HR2, HT.out.next c hby0 hby1, ?_, hBk.trans (hU2.below _ hBk.size (fun k h => by subst h; exact hb1))⟩
          show _ = _
          rw [HD.out, HD2.out, ldS_go st c _ he]
        case measure => simp [intOf]; omega
      · have he' : (errS st c == 0) = false := by simpa using he
        go_wp2_with (go_at_call 18; refine (byte_any b st c _ HRd.out HT.out).mono ?_; rintro e w2 ⟨rfl, HR2, hs2, hU2⟩)
        go_ret2
        refine ⟨hBk.trans (hU2.below _ hBk.size (fun k h => by subst h; exact hb1)), .inr ⟨nextS st c, errS st c, ?_, he, rfl⟩⟩
        rw [HD.out, HD2.out, ldS_stop st c _ he]
    · obtain rfl : k = m := by omega
      go_wp2
      go_ret2
      refine ⟨hBk, .inl ⟨b, st, ?_, rfl, hb1, HRd.out, HT.out⟩⟩
      rw [HD.out, ← HL.out, List.drop_length, ldS_nil]
end Go.Proofs.Ytgeabhnfkkkbgaa
