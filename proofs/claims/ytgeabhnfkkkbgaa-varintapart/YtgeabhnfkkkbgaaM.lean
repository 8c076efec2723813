/- The document's reader. -/
import Derived.Test.YtgeabhnfkkkbgaaL
namespace Go.Proofs.Ytgeabhnfkkkbgaa
open Go.RowKit
set_option linter.unusedVariables false

/-- The document's reader at block br: its bytes are the row v; all lies from block B on. -/
structure RRd (B : Nat) (w : World) (br : Nat) (v : Value) (l : List Int) (ov : Bool) : Prop where
  blk : Blk w br 62 [v, .bool ov]
  row : w.ownsRow B 5 1 v l.length (cellsL .u8 l)
  lo : B ≤ br
/-- Its blocks. -/
def Fr (br : Nat) (v : Value) (k : Nat) : Prop := k = br ∨ v.ownBlock = some k
theorem RRd.upd {B br : Nat} {w w' : World} {v : Value} {l : List Int} {ov : Bool} {S : Nat → Prop} (h : RRd B w br v l ov) (hu : Upd S w w') (hs : ∀ k, Fr br v k → ¬ S k) : RRd B w' br v l ov :=
  ⟨h.blk.upd hu (hs br (.inl rfl)), owns_upd h.row hu (fun k hk => hs k (.inr hk)), h.lo⟩
theorem RRd.later {B br : Nat} {w w' : World} {v : Value} {l : List Int} {ov : Bool} (h : RRd B w br v l ov) (hB : Below w.heap.size w w') : RRd B w' br v l ov :=
  h.upd (Upd.of_below (S := fun _ => False) hB) (fun _ _ h => h)
theorem RRd.fr {B br : Nat} {w : World} {v : Value} {l : List Int} {ov : Bool} (h : RRd B w br v l ov) (k : Nat) (hk : Fr br v k) : B ≤ k ∧ k < w.heap.size := by
  rcases hk with rfl | hk
  · exact ⟨h.lo, h.blk.lt⟩
  · exact h.row.lt k hk
/-- The row is no struct. -/
theorem own_ne {B br n : Nat} {w : World} {v : Value} {xs ys : List Value} (h : w.ownsRow B 5 1 v n xs) (hb : Blk w br 62 ys) : v.ownBlock ≠ some br := by
  intro e
  rcases h.2 with ⟨rfl, _⟩ | ⟨g, cap, cur, rfl, _, hg, _⟩
  · cases e
  · injection e with e
    have e' : g = br := e
    subst e'
    unfold Blk at hb
    rw [hb] at hg
    injection hg with hg
    injection hg with _ h3 _
    cases h3
theorem RRd.open {B br : Nat} {w : World} {v : Value} {l : List Int} {ov : Bool} (h : RRd B w br v l ov) : ∃ a c, v = .slice a l.length c ∧ Row .u8 w a l ∧ (a = none → c = 0) ∧ l.length ≤ c ∧ c ≤ maxLen := by
  obtain ⟨a, c, h1, h2, h3, h4, h5, _⟩ := own_open h.row rfl
  exact ⟨a, c, h1, h2, h3, h4, h5⟩

theorem rnew_any (w : World) :
    Calls Try.prog 19 #[] w fun e w' => ∃ b, e = .returned (.pointer (some ⟨b, 0, none⟩)) ∧ w.heap.size ≤ b ∧ Hid (RRd w.heap.size w' b (.slice none 0 0) [] false) ∧ Below w.heap.size w w' := by
  go_enter Try.func19, Try.ntmps19
  go_wp2
  go_ret
  refine ⟨_, rfl, Nat.le_refl _, ⟨?_, World.ownsRow_nil _ _ _ _, Nat.le_refl _⟩, (Below.refl _ _).alloc (Nat.le_refl _) _⟩
  exact Blk.newA w _ _
theorem RRd.mono {B B' br : Nat} {w : World} {v : Value} {l : List Int} {ov : Bool} (h : RRd B w br v l ov) (hB : B' ≤ B) : RRd B' w br v l ov := by
  refine ⟨h.blk, ⟨h.row.1, ?_⟩, Nat.le_trans hB h.lo⟩
  rcases h.row.2 with hn | ⟨g, cap, cur, rfl, hb, rest⟩
  · exact .inl hn
  · exact .inr ⟨g, cap, cur, rfl, Nat.le_trans hB hb, rest⟩

theorem rbyte_over (B br : Nat) (v : Value) (l : List Int) (c : Int) (w : World) (h : RRd B w br v l true) :
    Calls Try.prog 32 #[.pointer (some ⟨br, 0, none⟩), .int .u8 c] w fun e w' => e = .returned (.tuple #[.bool false, .int .i64 30]) ∧ w = w' := by
  have c1 := h.blk.cell 1
  simp only [List.getElem?_cons_zero, List.getElem?_cons_succ] at c1
  clear h
  go_enter Try.func32, Try.ntmps32
  go_wp2
  go_ret2
  exact ⟨rfl, rfl⟩
theorem rbyte_fault (B br : Nat) (v : Value) (l : List Int) (c : Int) (w : World) (h : RRd B w br v l false) (hl : l.length ≤ 9) (h0 : 0 ≤ c) (hf : flt l.length c = true) :
    Calls Try.prog 32 #[.pointer (some ⟨br, 0, none⟩), .int .u8 c] w fun e w' => e = .returned (.tuple #[.bool false, .int .i64 21]) ∧ Hid (RRd B w' br v l true) ∧ Upd (Fr br v) w w' := by
  have c0 := h.blk.cell 0
  have c1 := h.blk.cell 1
  have z1 := h.blk.frozen 1
  simp only [List.getElem?_cons_zero, List.getElem?_cons_succ] at c0 c1
  have HR : Hid (RRd B w br v l false) := h
  obtain ⟨a, cap, rfl, -, -, -, -⟩ := h.open
  clear h
  obtain ⟨m, hm⟩ : ∃ m, l.length = m := ⟨_, rfl⟩
  rw [hm] at hf hl c0 HR ⊢
  go_enter Try.func32, Try.ntmps32
  go_wp2_with (go_at_call 35; refine (rfault_any m c _ hl h0).mono ?_; rintro e w' ⟨rfl, rfl⟩; rw [hf])
  go_ret2
  refine ⟨rfl, ⟨?_, owns_upd HR.out.row ((Upd.refl (fun k => k = br) w).set ⟨br, 1, none⟩ (.bool true) (.inl rfl)) (fun k hk e => own_ne HR.out.row HR.out.blk (by rw [← e]; exact hk)), HR.out.lo⟩, (Upd.refl _ w).set _ _ (.inl (.inl rfl))⟩
  exact HR.out.blk.set 1 (.bool true)
set_option maxHeartbeats 1000000 in
theorem rbyte_take (B br : Nat) (v : Value) (l : List Int) (c : Int) (w : World) (h : RRd B w br v l false) (hl : l.length ≤ 9) (h0 : 0 ≤ c) (hf : flt l.length c = false) :
    Calls Try.prog 32 #[.pointer (some ⟨br, 0, none⟩), .int .u8 c] w fun e w' => ∃ v', e = .returned (.tuple #[.bool (decide (c < 128)), .int .i64 0]) ∧ Hid (RRd B w' br v' (l ++ [c]) (decide (c < 128))) ∧ Upd (Fr br v) w w' ∧ (∀ k, v'.ownBlock = some k → v.ownBlock = some k ∨ w.heap.size ≤ k) := by
  have c0 := h.blk.cell 0
  have c1 := h.blk.cell 1
  simp only [List.getElem?_cons_zero, List.getElem?_cons_succ] at c0 c1
  obtain ⟨g, cap', w2, hr, ho, hU, hg4⟩ := run_push E23 w 23 B v l.length l h.row c (by unfold maxLen; omega) (by omega) (Nat.le_trans h.lo (Nat.le_of_lt h.blk.lt))
  have hb2 : Blk w2 br 62 [v, .bool false] := h.blk.upd hU (own_ne h.row h.blk)
  have d0 := hb2.cell 0
  have d1 := hb2.cell 1
  have z0 := hb2.frozen 0
  have z1 := hb2.frozen 1
  simp only [List.getElem?_cons_zero, List.getElem?_cons_succ] at d0 d1
  have HR : Hid (RRd B w br v l false) := h
  have HO : Hid _ := ho
  have HB2 : Hid (Blk w2 br 62 [v, .bool false]) := hb2
  have HU : Hid _ := hU
  have R1 : Hid _ := hr
  obtain ⟨a, cap, hv, -, -, -, -⟩ := h.open
  clear h ho hb2 hU hr
  obtain ⟨m, hm⟩ : ∃ m, l.length = m := ⟨_, rfl⟩
  have HL1 : Hid ((l ++ [c]).length = m + 1) := by show _ = _; rw [List.length_append, hm]; rfl
  rw [hm] at hf hl R1 HO hv
  subst hv
  obtain ⟨d, hd⟩ : ∃ d, decide (c < 128) = d := ⟨_, rfl⟩
  rw [hd]
  clear hm
  go_enter Try.func32, Try.ntmps32
  go_wp2_with (first | (go_at_call 35; refine (rfault_any m c _ hl h0).mono ?_; rintro e w' ⟨rfl, rfl⟩; rw [hf]) | (at_builtin; have _t := R1; refine wpList_append_run rfl (.tmp 24) (.tmp 26) 23 23 rfl rfl rfl R1.out ?_; clear R1))
  go_ret2
  have hU1 : Upd (Fr br (.slice a m cap)) w w2 := HU.out.mono (fun k _ hk => .inr hk)
  have hne : ∀ k, (Value.slice (some ⟨g, 0, none⟩) (m + 1) cap').ownBlock = some k → ¬ k = br := fun k hk e => own_ne HO.out HB2.out (by rw [← e]; exact hk)
  have hU3 : Upd (fun k => k = br) w2 ((w2.setCell ⟨br, 0, none⟩ (.slice (some ⟨g, 0, none⟩) (m + 1) cap')).setCell ⟨br, 1, none⟩ (.bool d)) := ((Upd.refl (fun k => k = br) w2).set _ _ (.inl rfl)).set _ _ (.inl rfl)
  refine ⟨.slice (some ⟨g, 0, none⟩) (m + 1) cap', rfl, ⟨(HB2.out.set 0 (.slice (some ⟨g, 0, none⟩) (m + 1) cap')).set 1 (.bool d), ?_, HR.out.lo⟩, hU1.trans hU3 (fun k _ hk => .inl hk), fun k hk => ?_⟩
  · rw [HL1.out]
    exact owns_upd HO.out hU3 hne
  · injection hk with hk
    have hk' : g = k := hk
    subst hk'
    exact hg4
theorem rbyte_any (B br : Nat) (v : Value) (st : St) (c : Int) (w : World) (h : RRd B w br v st.1 st.2) (ht : TkS st) (h0 : 0 ≤ c) :
    Calls Try.prog 32 #[.pointer (some ⟨br, 0, none⟩), .int .u8 c] w fun e w' => ∃ v', e = .returned (.tuple #[.bool (doneS st c), .int .i64 (errS st c)]) ∧ Hid (RRd B w' br v' (nextS st c).1 (nextS st c).2) ∧ Upd (Fr br v) w w' ∧ (∀ k, v'.ownBlock = some k → v.ownBlock = some k ∨ w.heap.size ≤ k) := by
  obtain ⟨l, ov⟩ := st
  simp only at h
  cases ov with
  | true =>
    refine (rbyte_over B br v l c w h).mono ?_
    rintro e w' ⟨rfl, rfl⟩
    exact ⟨v, rfl, h, Upd.refl _ _, fun k hk => .inl hk⟩
  | false =>
    have hg := (ht.2 rfl).1
    simp only at hg
    by_cases hf : flt l.length c = true
    · refine (rbyte_fault B br v l c w h hg h0 hf).mono ?_
      rintro e w' ⟨rfl, h1, h2⟩
      refine ⟨v, by simp [doneS, errS, hf], ?_, h2, fun k hk => .inl hk⟩
      simp only [nextS, hf, Bool.false_eq_true, if_false, if_true]
      exact h1
    · have hf' : flt l.length c = false := by simpa using hf
      refine (rbyte_take B br v l c w h hg h0 hf').mono ?_
      rintro e w' ⟨v', rfl, h1, h2, h3⟩
      refine ⟨v', by simp [doneS, errS, hf'], ?_, h2, h3⟩
      simp only [nextS, hf', Bool.false_eq_true, if_false]
      exact h1
theorem rn_any (B br : Nat) (v : Value) (l : List Int) (ov : Bool) (w : World) (h : RRd B w br v l ov) (ht : TkN l) :
    Calls Try.prog 33 #[.pointer (some ⟨br, 0, none⟩)] w fun e w' => e = .returned (.int .u64 (val l)) ∧ w = w' := by
  have c0 := h.blk.cell 0
  simp only [List.getElem?_cons_zero] at c0
  obtain ⟨a, cap, rfl, hrow, -, -, -⟩ := h.open
  have HRow : Hid (Row .u8 w a l) := hrow
  have HT : Hid (TkN l) := ht
  clear h hrow ht
  go_enter Try.func33, Try.ntmps33
  go_wp2_with (go_at_call 36; refine (rvalue_any a l.length cap l _ rfl (by have := HT.out.2.1; unfold maxLen; omega) HRow.out HT.out.1 HT.out.lt).mono ?_; rintro e w' ⟨rfl, rfl⟩)
  go_ret
  exact ⟨rfl, rfl⟩
theorem rread_any (B br : Nat) (v : Value) (l : List Int) (ov : Bool) (w : World) (m : Nat) (hlm : l.length = m) (h : RRd B w br v l ov) (hm : m ≤ 10) :
    Calls Try.prog 34 #[.pointer (some ⟨br, 0, none⟩)] w fun e w' => ∃ a c, e = .returned (.slice a m c) ∧ Hid (Row .u8 w' a l) ∧ Below w.heap.size w w' := by
  have c0 := h.blk.cell 0
  simp only [List.getElem?_cons_zero] at c0
  obtain ⟨a, cap, rfl, hrow, hnil, -, -⟩ := h.open
  rw [hlm] at c0
  obtain ⟨v', w', hr, ho, hg⟩ := run_copy E23 w 23 w.heap.size a m cap l hlm hrow hnil (by unfold maxLen; omega) (by omega) (Nat.le_refl _)
  have hB : Below w.heap.size w w' := (Below.refl _ _).grown hg (Nat.le_refl _) (fun k hk => by cases hk)
  obtain ⟨a', c', rfl, h2, _⟩ := own_open ho hlm
  have HRow : Hid (Row .u8 w' a' l) := h2
  have R1 : Hid _ := hr
  clear h hrow hnil hr ho hg h2 hlm
  go_enter Try.func34, Try.ntmps34
  go_wp2_with (at_builtin; have _t := R1; refine wpList_append_run rfl (.const (.slice none 0 0)) (.tmp 6) 23 23 rfl rfl rfl R1.out ?_; clear R1)
  go_ret
  exact ⟨a', c', rfl, HRow, hB⟩
set_option maxHeartbeats 1000000 in
theorem rload_any (a : Option Addr) (m cap : Nat) (l : List Int) (w : World) (hl : l.length = m) (hm : m ≤ maxLen) (hrow : Row .u8 w a l) (hb : Bys l) :
    Calls Try.prog 31 #[.slice a m cap] w fun e w' => Below w.heap.size w w' ∧
      ((∃ b v st, ldS ([], false) l = (st, 0) ∧ e = .returned (.tuple #[.pointer (some ⟨b, 0, none⟩), .int .i64 0]) ∧ RRd w.heap.size w' b v st.1 st.2) ∨
       (∃ st r, ldS ([], false) l = (st, r) ∧ r ≠ 0 ∧ e = .returned (.tuple #[.pointer none, .int .i64 r]))) := by
  unfold maxLen at hm
  have HR : Hid (Row .u8 w a l) := hrow
  have HL : Hid (l.length = m) := hl
  have HBy : Hid (Bys l) := hb
  clear hrow hl hb
  go_enter Try.func31, Try.ntmps31
  go_wp2_with (go_at_call 19; refine (rnew_any _).mono ?_; rintro e w1 ⟨b, rfl, -, HR1, hB1⟩)
  go_loopw [5] (fun i wr => ∃ (k : Nat) (st : St) (v : Value), k ≤ m ∧ i = .int .i64 k ∧ Hid (RRd w.heap.size wr b v st.1 st.2) ∧ Hid (TkS st) ∧ Hid (ldS ([], false) l = ldS st (l.drop k)) ∧ Below w.heap.size w wr) (fun i _ => m - (intOf i).toNat)
  case atStart => exact ⟨0, ([], false), .slice none 0 0, Nat.zero_le _, rfl, HR1, TkS.start, rfl, hB1⟩
  case round =>
    obtain ⟨k, st, v, hk, rfl, HRd, HT, HD, hBk⟩ := hrel
    by_cases hlt : k < m
    · have hlt' : (k : Int) < m := by omega
      obtain ⟨bb, off, rfl, hbw, hcs⟩ := HR.out.open (by have := HL.out; omega)
      have hc := hcs k (by have := HL.out; omega)
      rw [← hBk.cell (p := ⟨bb, off + k, none⟩) hbw] at hc
      clear hcs
      have hby := HBy.out.at k
      have HD2 : Hid (l.drop k = l.getD k 0 :: l.drop (k + 1)) := drop_cons l k (by have := HL.out; omega)
      generalize l.getD k 0 = c at *
      obtain ⟨hby0, hby1⟩ := hby
      have hlo : ∀ k, Fr b v k → w.heap.size ≤ k := fun k hk => (HRd.out.fr k hk).1
      have Hlo : Hid (∀ k, Fr b v k → w.heap.size ≤ k) := hlo
      clear hlo
      by_cases he : errS st c = 0
      · go_wp2_with (go_at_call 32; refine (rbyte_any w.heap.size b v st c _ HRd.out HT.out hby0).mono ?_; rintro e w2 ⟨v2, rfl, HR2, hU2, -⟩)
        go_roundw
        case rel =>
          refine ⟨k + 1, nextS st c, v2, by omega, by go_num, HR2, HT.out.next c hby0 hby1, ?_, hBk.trans (hU2.below _ hBk.size Hlo.out)⟩
          show _ = _
          rw [HD.out, HD2.out, ldS_go st c _ he]
        case measure => simp [intOf]; omega
      · have he' : (errS st c == 0) = false := by simpa using he
        go_wp2_with (go_at_call 32; refine (rbyte_any w.heap.size b v st c _ HRd.out HT.out hby0).mono ?_; rintro e w2 ⟨v2, rfl, HR2, hU2, -⟩)
        go_ret2
        refine ⟨hBk.trans (hU2.below _ hBk.size Hlo.out), .inr ⟨nextS st c, errS st c, ?_, he, rfl⟩⟩
        rw [HD.out, HD2.out, ldS_stop st c _ he]
    · obtain rfl : k = m := by omega
      go_wp2
      go_ret2
      refine ⟨hBk, .inl ⟨b, v, st, ?_, rfl, HRd.out⟩⟩
      rw [HD.out, ← HL.out, List.drop_length, ldS_nil]
end Go.Proofs.Ytgeabhnfkkkbgaa
