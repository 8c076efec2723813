/- text, name, number, begins. -/
import Derived.Test.YtokepgimjdalaaaSb
namespace Go.Proofs.Ytokepgimjdalaaa
open Go.RowKit
set_option linter.unusedVariables false

/-- Behind the cell of an answer, w6; the token that was asked for is written there. -/
theorem tok_end {w w6 w7 : World} {B g : Nat} {tv v : Value} {ts : List Tk} {L j : Nat} {N : List Nd} (hg : g < w.heap.size) (HB : Below w.heap.size w w6) (K : Blk w6 w.heap.size 42 [.int .i64 0, .string ⟨#[]⟩, .int .i64 0, .int .i64 0, .int .i64 0])
    (hl1 : ∀ k, tv.ownBlock = some k → k < w.heap.size) (hl2 : ∀ k, v.ownBlock = some k → k < w.heap.size)
    (HP : Par w7 B g tv ts L j v N) (HU : Upd (fun k => k = g) w6 w7) (y0 y1 y2 y3 y4 : Value) :
    Blk (((((w7.setCell ⟨w.heap.size, 0, none⟩ y0).setCell ⟨w.heap.size, 1, none⟩ y1).setCell ⟨w.heap.size, 2, none⟩ y2).setCell ⟨w.heap.size, 3, none⟩ y3).setCell ⟨w.heap.size, 4, none⟩ y4) w.heap.size 42 [y0, y1, y2, y3, y4] ∧
    Hid (Par (((((w7.setCell ⟨w.heap.size, 0, none⟩ y0).setCell ⟨w.heap.size, 1, none⟩ y1).setCell ⟨w.heap.size, 2, none⟩ y2).setCell ⟨w.heap.size, 3, none⟩ y3).setCell ⟨w.heap.size, 4, none⟩ y4) B g tv ts L j v N) ∧
    Hid (Upd (fun k => k = g) w (((((w7.setCell ⟨w.heap.size, 0, none⟩ y0).setCell ⟨w.heap.size, 1, none⟩ y1).setCell ⟨w.heap.size, 2, none⟩ y2).setCell ⟨w.heap.size, 3, none⟩ y3).setCell ⟨w.heap.size, 4, none⟩ y4)) := by
  have K7 := K.upd HU (by show ¬ w.heap.size = g; omega)
  have hU5 : Upd (fun k => k = w.heap.size) w7 (((((w7.setCell ⟨w.heap.size, 0, none⟩ y0).setCell ⟨w.heap.size, 1, none⟩ y1).setCell ⟨w.heap.size, 2, none⟩ y2).setCell ⟨w.heap.size, 3, none⟩ y3).setCell ⟨w.heap.size, 4, none⟩ y4) := (((((Upd.refl (fun k => k = w.heap.size) w7).set ⟨w.heap.size, 0, none⟩ _ (.inl rfl)).set ⟨w.heap.size, 1, none⟩ _ (.inl rfl)).set ⟨w.heap.size, 2, none⟩ _ (.inl rfl)).set ⟨w.heap.size, 3, none⟩ _ (.inl rfl)).set ⟨w.heap.size, 4, none⟩ _ (.inl rfl)
  exact ⟨wr5 K7 _ _ _ _ _, HP.upd hU5 (by omega) (fun k hk => Nat.ne_of_lt (hl1 k hk)) (fun k hk => Nat.ne_of_lt (hl2 k hk)), ((Upd.of_below HB).trans HU (fun k _ h => h)).trans hU5 (fun k h1 h2 => by omega)⟩
theorem fld1 (a b c d e : Value) (w : World) : (Instr.field 42 (.agg #[a, b, c, d, e]) 1).run Try.prog w = .ok b w := by kernel_rfl
theorem fld0 (a b c d e : Value) (w : World) : (Instr.field 42 (.agg #[a, b, c, d, e]) 0).run Try.prog w = .ok a w := by kernel_rfl
theorem fld2 (a b c d e : Value) (w : World) : (Instr.field 42 (.agg #[a, b, c, d, e]) 2).run Try.prog w = .ok c w := by kernel_rfl
theorem fld3 (a b c d e : Value) (w : World) : (Instr.field 42 (.agg #[a, b, c, d, e]) 3).run Try.prog w = .ok d w := by kernel_rfl
theorem tk_lt {ts : List Tk} {L p : Nat} (hp : p ≤ ts.length) (h : (tkAt ts L p).t ≠ ⟨#[]⟩ ∨ (tkAt ts L p).k ≠ 0) : p < ts.length := by
  rcases Nat.lt_or_ge p ts.length with h1 | h1
  · exact h1
  · obtain rfl : p = ts.length := by omega
    rw [tk_end] at h
    simp at h
theorem str_eq (a b : ByteArray) : (a.toList == b.toList) = decide (a = b) := by
  by_cases h : a = b
  · subst h; simp
  · rw [decide_eq_false h]
    have hb : (⟨b.toList.toArray⟩ : ByteArray) = b := by rw [Lib.toList_data]
    exact str_ne a b.toList (by rw [hb]; exact h)
set_option maxRecDepth 100000 in
set_option maxHeartbeats 4000000 in
theorem text_any {w : World} {B g : Nat} {tv v : Value} {ts : List Tk} {L p : Nat} {N : List Nd} (HP : Hid (Par w B g tv ts L p v N)) (s : ByteArray) (hs : s ≠ ⟨#[]⟩) :
    Calls Try.prog 26 #[.pointer (some ⟨g, 0, none⟩), .string s] w fun e w' => TokTo w B g tv ts L p v N (txt (ts.map core) s p) e w' := by
  have HPa := hide_ (HP.out.later ((Below.refl _ w).alloc (Nat.le_refl _) (.cells #[.int .i64 0, .string ⟨#[]⟩, .int .i64 0, .int .i64 0, .int .i64 0] 42)))
  have HBa := hide_ ((Below.refl w.heap.size w).alloc (Nat.le_refl _) (.cells #[.int .i64 0, .string ⟨#[]⟩, .int .i64 0, .int .i64 0, .int .i64 0] 42))
  have K4 := hide_ (Blk.newA w #[.int .i64 0, .string ⟨#[]⟩, .int .i64 0, .int .i64 0, .int .i64 0] 42)
  have HC := hide_ (token_any HPa)
  have hgw := HP.out.1.lt
  have hp := HP.out.2.2.2.2.1
  have HX : Hid (txt (ts.map core) s p = if decide ((tkAt ts L p).t = s) then .ok (p + 1) else .error (60, p)) := by
    show _ = _
    unfold txt tak isT
    rw [core_at ts L p]
    rfl
  have HL : Hid (decide ((tkAt ts L p).t = s) = true → p < ts.length) := fun h => tk_lt hp (by
    have := of_decide_eq_true h
    exact .inl (by rw [this]; exact hs))
  have hx0 : tkAt ts L p = tkAt ts L p := rfl
  obtain ⟨x, hx⟩ : ∃ x, tkAt ts L p = x := ⟨_, rfl⟩
  have HXX := hide_ hx
  rw [HX.out]
  rw [hx] at HC HL ⊢
  obtain ⟨m, hm⟩ : ∃ m, decide (x.t = s) = m := ⟨_, rfl⟩
  rw [hm] at HL ⊢
  have HM := hide_ hm
  obtain ⟨r, hr⟩ : ∃ r : PR Nat, (if m = true then .ok (p + 1) else .error (60, p)) = r := ⟨_, rfl⟩
  rw [hr]
  have HR := hide_ hr
  clear HX hm hx hx0 hr
  have hf1 := fld1
  have hf0 := fld0
  go_enter Try.func26, Try.ntmps26
  go_wp2_with fail
  refine HC.out.mono ?_; rintro e w2 ⟨rfl, hB2⟩
  have HP2 := hide_ (HPa.out.later hB2)
  have HB2 := hide_ (HBa.out.trans (hB2.mono HBa.out.size))
  have K2 := hide_ (K4.out.later hB2)
  clear hB2 HC HPa HBa K4
  unfold tkv
  go_wp2_with fail
  rw [str_eq]
  rw [HM.out]
  have HTk := take_any HP2 m HL.out
  rw [HR.out] at HTk
  refine HTk.mono ?_; clear HTk; rintro e w3 (⟨j, hj, rfl, HP3, HU3⟩ | ⟨y, hy, rfl, HU3⟩)
  · have HJ := hide_ hj
    clear hj
    rw [HXX.out]
    have k0 := (K2.out.upd HU3.out (by show ¬ w.heap.size = g; omega)).cell 0
    have k1 := (K2.out.upd HU3.out (by show ¬ w.heap.size = g; omega)).cell 1
    have k2 := (K2.out.upd HU3.out (by show ¬ w.heap.size = g; omega)).cell 2
    have k3 := (K2.out.upd HU3.out (by show ¬ w.heap.size = g; omega)).cell 3
    have k4 := (K2.out.upd HU3.out (by show ¬ w.heap.size = g; omega)).cell 4
    have z0 := (K2.out.upd HU3.out (by show ¬ w.heap.size = g; omega)).frozen 0
    have z1 := (K2.out.upd HU3.out (by show ¬ w.heap.size = g; omega)).frozen 1
    have z2 := (K2.out.upd HU3.out (by show ¬ w.heap.size = g; omega)).frozen 2
    have z3 := (K2.out.upd HU3.out (by show ¬ w.heap.size = g; omega)).frozen 3
    have z4 := (K2.out.upd HU3.out (by show ¬ w.heap.size = g; omega)).frozen 4
    simp at k0 k1 k2 k3 k4
    unfold tkv
    go_wp2
    obtain ⟨t1, t2, t3⟩ := tok_end hgw HB2.out K2.out (fun k hk => (HP.out.2.1.lt k hk).2) (fun k hk => (HP.out.2.2.1.lt k hk).2) HP3.out HU3.out (.int .i64 x.k) (.string x.t) (.int .i64 x.n) (.int .i64 x.a) (.int .i64 x.e)
    exact retT (T := x) rfl rfl t1 (.inl ⟨j, HJ.out, by rw [HXX.out], t2, t3⟩)
  · have HJ := hide_ hy
    clear hy
    unfold Flt
    go_wp2
    exact ⟨rfl, .inr ⟨y, HJ.out, rfl, hide_ ((Upd.of_below HB2.out).trans HU3.out (fun k _ h => h))⟩⟩
set_option maxRecDepth 100000 in
set_option maxHeartbeats 4000000 in
theorem name_tok {w : World} {B g : Nat} {tv v : Value} {ts : List Tk} {L p : Nat} {N : List Nd} (HP : Hid (Par w B g tv ts L p v N)) :
    Calls Try.prog 40 #[.pointer (some ⟨g, 0, none⟩)] w fun e w' => TokTo w B g tv ts L p v N (tak (ts.map core) isNm p) e w' := by
  have HPa := hide_ (HP.out.later ((Below.refl _ w).alloc (Nat.le_refl _) (.cells #[.int .i64 0, .string ⟨#[]⟩, .int .i64 0, .int .i64 0, .int .i64 0] 42)))
  have HBa := hide_ ((Below.refl w.heap.size w).alloc (Nat.le_refl _) (.cells #[.int .i64 0, .string ⟨#[]⟩, .int .i64 0, .int .i64 0, .int .i64 0] 42))
  have K4 := hide_ (Blk.newA w #[.int .i64 0, .string ⟨#[]⟩, .int .i64 0, .int .i64 0, .int .i64 0] 42)
  have HC := hide_ (token_any HPa)
  have hgw := HP.out.1.lt
  have hp := HP.out.2.2.2.2.1
  have HX : Hid (tak (ts.map core) isNm p = if isName (tkAt ts L p).t then .ok (p + 1) else .error (60, p)) := by
    show _ = _
    unfold tak isNm
    rw [core_at ts L p]
    rfl
  have HL : Hid (isName (tkAt ts L p).t = true → p < ts.length) := fun h => tk_lt hp (by
    refine .inl (fun e => ?_)
    rw [e] at h
    exact absurd h (by decide))
  have hx0 : tkAt ts L p = tkAt ts L p := rfl
  obtain ⟨x, hx⟩ : ∃ x, tkAt ts L p = x := ⟨_, rfl⟩
  have HXX := hide_ hx
  rw [HX.out]
  rw [hx] at HC HL ⊢
  obtain ⟨m, hm⟩ : ∃ m, isName x.t = m := ⟨_, rfl⟩
  rw [hm] at HL ⊢
  have HM := hide_ hm
  obtain ⟨r, hr⟩ : ∃ r : PR Nat, (if m = true then .ok (p + 1) else .error (60, p)) = r := ⟨_, rfl⟩
  rw [hr]
  have HR := hide_ hr
  clear HX hm hx hx0 hr
  have hf1 := fld1
  have hf0 := fld0
  go_enter Try.func40, Try.ntmps40
  go_wp2_with fail
  refine HC.out.mono ?_; rintro e w2 ⟨rfl, hB2⟩
  have HP2 := hide_ (HPa.out.later hB2)
  have HB2 := hide_ (HBa.out.trans (hB2.mono HBa.out.size))
  have K2 := hide_ (K4.out.later hB2)
  clear hB2 HC HPa HBa K4
  unfold tkv
  go_wp2_with fail
  refine (name_any _ _).mono ?_; rintro e w4 ⟨rfl, rfl⟩
  go_wp2_with fail
  rw [HM.out]
  have HTk := take_any HP2 m HL.out
  rw [HR.out] at HTk
  refine HTk.mono ?_; clear HTk; rintro e w3 (⟨j, hj, rfl, HP3, HU3⟩ | ⟨y, hy, rfl, HU3⟩)
  · have HJ := hide_ hj
    clear hj
    rw [HXX.out]
    have k0 := (K2.out.upd HU3.out (by show ¬ w.heap.size = g; omega)).cell 0
    have k1 := (K2.out.upd HU3.out (by show ¬ w.heap.size = g; omega)).cell 1
    have k2 := (K2.out.upd HU3.out (by show ¬ w.heap.size = g; omega)).cell 2
    have k3 := (K2.out.upd HU3.out (by show ¬ w.heap.size = g; omega)).cell 3
    have k4 := (K2.out.upd HU3.out (by show ¬ w.heap.size = g; omega)).cell 4
    have z0 := (K2.out.upd HU3.out (by show ¬ w.heap.size = g; omega)).frozen 0
    have z1 := (K2.out.upd HU3.out (by show ¬ w.heap.size = g; omega)).frozen 1
    have z2 := (K2.out.upd HU3.out (by show ¬ w.heap.size = g; omega)).frozen 2
    have z3 := (K2.out.upd HU3.out (by show ¬ w.heap.size = g; omega)).frozen 3
    have z4 := (K2.out.upd HU3.out (by show ¬ w.heap.size = g; omega)).frozen 4
    simp at k0 k1 k2 k3 k4
    unfold tkv
    go_wp2
    obtain ⟨t1, t2, t3⟩ := tok_end hgw HB2.out K2.out (fun k hk => (HP.out.2.1.lt k hk).2) (fun k hk => (HP.out.2.2.1.lt k hk).2) HP3.out HU3.out (.int .i64 x.k) (.string x.t) (.int .i64 x.n) (.int .i64 x.a) (.int .i64 x.e)
    exact retT (T := x) rfl rfl t1 (.inl ⟨j, HJ.out, by rw [HXX.out], t2, t3⟩)
  · have HJ := hide_ hy
    clear hy
    unfold Flt
    go_wp2
    exact ⟨rfl, .inr ⟨y, HJ.out, rfl, hide_ ((Upd.of_below HB2.out).trans HU3.out (fun k _ h => h))⟩⟩
set_option maxRecDepth 100000 in
set_option maxHeartbeats 4000000 in
theorem number_tok {w : World} {B g : Nat} {tv v : Value} {ts : List Tk} {L p : Nat} {N : List Nd} (HP : Hid (Par w B g tv ts L p v N)) :
    Calls Try.prog 56 #[.pointer (some ⟨g, 0, none⟩)] w fun e w' => TokTo w B g tv ts L p v N (tak (ts.map core) isNum p) e w' := by
  have HPa := hide_ (HP.out.later ((Below.refl _ w).alloc (Nat.le_refl _) (.cells #[.int .i64 0, .string ⟨#[]⟩, .int .i64 0, .int .i64 0, .int .i64 0] 42)))
  have HBa := hide_ ((Below.refl w.heap.size w).alloc (Nat.le_refl _) (.cells #[.int .i64 0, .string ⟨#[]⟩, .int .i64 0, .int .i64 0, .int .i64 0] 42))
  have K4 := hide_ (Blk.newA w #[.int .i64 0, .string ⟨#[]⟩, .int .i64 0, .int .i64 0, .int .i64 0] 42)
  have HC := hide_ (token_any HPa)
  have hgw := HP.out.1.lt
  have hp := HP.out.2.2.2.2.1
  have HX : Hid (tak (ts.map core) isNum p = if decide ((tkAt ts L p).k = 2) then .ok (p + 1) else .error (60, p)) := by
    show _ = _
    unfold tak isNum
    rw [core_at ts L p]
    rfl
  have HL : Hid (decide ((tkAt ts L p).k = 2) = true → p < ts.length) := fun h => tk_lt hp (by
    have := of_decide_eq_true h
    exact .inr (by rw [this]; decide))
  have hx0 : tkAt ts L p = tkAt ts L p := rfl
  obtain ⟨x, hx⟩ : ∃ x, tkAt ts L p = x := ⟨_, rfl⟩
  have HXX := hide_ hx
  rw [HX.out]
  rw [hx] at HC HL ⊢
  obtain ⟨m, hm⟩ : ∃ m, decide (x.k = 2) = m := ⟨_, rfl⟩
  rw [hm] at HL ⊢
  have HM := hide_ hm
  obtain ⟨r, hr⟩ : ∃ r : PR Nat, (if m = true then .ok (p + 1) else .error (60, p)) = r := ⟨_, rfl⟩
  rw [hr]
  have HR := hide_ hr
  clear HX hm hx hx0 hr
  have hf1 := fld1
  have hf0 := fld0
  go_enter Try.func56, Try.ntmps56
  go_wp2_with fail
  refine HC.out.mono ?_; rintro e w2 ⟨rfl, hB2⟩
  have HP2 := hide_ (HPa.out.later hB2)
  have HB2 := hide_ (HBa.out.trans (hB2.mono HBa.out.size))
  have K2 := hide_ (K4.out.later hB2)
  clear hB2 HC HPa HBa K4
  unfold tkv
  go_wp2_with fail
  rw [show (x.k == 2) = decide (x.k = 2) from by by_cases h : x.k = 2 <;> simp [h]]
  rw [HM.out]
  have HTk := take_any HP2 m HL.out
  rw [HR.out] at HTk
  refine HTk.mono ?_; clear HTk; rintro e w3 (⟨j, hj, rfl, HP3, HU3⟩ | ⟨y, hy, rfl, HU3⟩)
  · have HJ := hide_ hj
    clear hj
    rw [HXX.out]
    have k0 := (K2.out.upd HU3.out (by show ¬ w.heap.size = g; omega)).cell 0
    have k1 := (K2.out.upd HU3.out (by show ¬ w.heap.size = g; omega)).cell 1
    have k2 := (K2.out.upd HU3.out (by show ¬ w.heap.size = g; omega)).cell 2
    have k3 := (K2.out.upd HU3.out (by show ¬ w.heap.size = g; omega)).cell 3
    have k4 := (K2.out.upd HU3.out (by show ¬ w.heap.size = g; omega)).cell 4
    have z0 := (K2.out.upd HU3.out (by show ¬ w.heap.size = g; omega)).frozen 0
    have z1 := (K2.out.upd HU3.out (by show ¬ w.heap.size = g; omega)).frozen 1
    have z2 := (K2.out.upd HU3.out (by show ¬ w.heap.size = g; omega)).frozen 2
    have z3 := (K2.out.upd HU3.out (by show ¬ w.heap.size = g; omega)).frozen 3
    have z4 := (K2.out.upd HU3.out (by show ¬ w.heap.size = g; omega)).frozen 4
    simp at k0 k1 k2 k3 k4
    unfold tkv
    go_wp2
    obtain ⟨t1, t2, t3⟩ := tok_end hgw HB2.out K2.out (fun k hk => (HP.out.2.1.lt k hk).2) (fun k hk => (HP.out.2.2.1.lt k hk).2) HP3.out HU3.out (.int .i64 x.k) (.string x.t) (.int .i64 x.n) (.int .i64 x.a) (.int .i64 x.e)
    exact retT (T := x) rfl rfl t1 (.inl ⟨j, HJ.out, by rw [HXX.out], t2, t3⟩)
  · have HJ := hide_ hy
    clear hy
    unfold Flt
    go_wp2
    exact ⟨rfl, .inr ⟨y, HJ.out, rfl, hide_ ((Upd.of_below HB2.out).trans HU3.out (fun k _ h => h))⟩⟩
end Go.Proofs.Ytokepgimjdalaaa
