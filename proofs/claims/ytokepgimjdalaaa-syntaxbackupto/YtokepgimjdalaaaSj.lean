/- node's walk. -/
import Derived.Test.YtokepgimjdalaaaSi
namespace Go.Proofs.Ytokepgimjdalaaa
open Go.RowKit
set_option linter.unusedVariables false

set_option maxRecDepth 100000 in
set_option maxHeartbeats 8000000 in
theorem node_zero : NodeOk 0 := by
  intro w B g tv v ts L p N x d HP hl hd
  obtain ⟨r, hr⟩ : ∃ r, nodeP (ts.map core) 0 x p = r := ⟨_, rfl⟩
  have HR := hide_ hr
  rw [hr]
  clear hr
  have HTk : Hid (∀ W, Hid (Par W B g tv ts L p v N) → Calls Try.prog 39 #[.pointer (some ⟨g, 0, none⟩)] W fun e w' => e = .returned (tkv (tkAt ts L p)) ∧ Below W.heap.size W w') := fun W h => token_any h
  have HQ : Hid (core (tkAt ts L p) = qAt (ts.map core) p) := (core_at ts L p).symm
  have HPl : Hid (plc ts L p = (tkAt ts L p).a) := rfl
  have HLt : Hid ((tkAt ts L p).t ≠ ⟨#[]⟩ → p < ts.length) := fun h => tk_lt HP.out.2.2.2.2.1 (.inl h)
  obtain ⟨T, hT⟩ : ∃ T, tkAt ts L p = T := ⟨_, rfl⟩
  rw [hT] at HTk HQ HPl HLt
  clear hT
  have HBg : Hid (∀ W, Calls Try.prog 51 #[.string T.t] W fun e w' => e = .returned (.tuple #[.int .i64 (beg T.t).1, .int .i64 (beg T.t).2]) ∧ W = w') := fun W => begins_any T.t W
  have HBe : Hid (beg T.t = beg (qAt (ts.map core) p).t) := by show _ = _; rw [← HQ.out]; rfl
  have HNe : Hid ((beg T.t).1 ≠ 0 → p < ts.length) := fun h => HLt.out (fun e => h (by rw [e]; decide))
  have HQt : Hid (T.t = (qAt (ts.map core) p).t) := by show _ = _; rw [← HQ.out]; rfl
  obtain ⟨kk, nn, hkn⟩ : ∃ kk nn, beg T.t = (kk, nn) := ⟨_, _, rfl⟩
  rw [hkn] at HBg HBe HNe
  have HKN := hide_ hkn
  clear hkn
  obtain ⟨X, hX⟩ : ∃ X, ndP ts L x = X := ⟨_, rfl⟩
  have HXX := hide_ hX
  rw [hX]
  clear hX
  have HPw : Hid (Par (((w.alloc (.cells #[.pointer (some ⟨g, 0, none⟩)] 71)).alloc (.cells #[.int .i64 X.k, .int .i64 X.n, .string X.name, .string X.label, .int .i64 X.tag, .int .i64 X.kids, .int .i64 X.a] 40)).alloc (.cells #[.int .i64 (d : Int)] 3)) B g tv ts L p v N) := hide_ (HP.out.later (((((Below.refl w.heap.size w).alloc (Nat.le_refl _) _).alloc (by simp) _).alloc (by simp <;> omega) _)))
  have hwl := HP.out.1.lt
  unfold ndv
  go_enter Try.func48, Try.ntmps48
  go_wp2_with fail
  refine (HTk.out _ HPw).mono ?_; rintro e w2 ⟨rfl, hB2⟩
  obtain ⟨hF, hM⟩ := fr_begin HP.out hB2 T
  have hsz : w.heap.size + 3 ≤ w2.heap.size := by have := hB2.size; simp at this; omega
  clear hB2 HPw HTk
  have HFr := hide_ hF
  have HMv := hide_ hM
  clear hF hM
  obtain ⟨w3, hw3⟩ : ∃ w3, w3 = w2.alloc (.cells #[.int .i64 T.k, .string T.t, .int .i64 T.n, .int .i64 T.a, .int .i64 T.e] 42) := ⟨_, rfl⟩
  rw [← hw3] at HFr HMv
  unfold tkv
  have f1 := HFr.out.2.2.2.1.cell 1
  simp [tkc] at f1
  go_upto_region 2 with fail
  rw [← hw3]
  clear hw3
  have x0 := HFr.out.2.2.1.cell 0; have x1 := HFr.out.2.2.1.cell 1
  have z0 := HFr.out.2.2.1.frozen 0; have z1 := HFr.out.2.2.1.frozen 1
  simp [ndc] at x0 x1
  go_wp2_with fail
  refine (HBg.out w3).mono ?_; rintro e w4 ⟨rfl, rfl⟩
  have HF4 := hide_ ((HFr.out.set 0 (.int .i64 kk) { X with k := kk } rfl).set 1 (.int .i64 nn) { X with k := kk, n := nn } rfl)
  have HM4 := hide_ ((HMv.out.setx ⟨w.heap.size + 1, 0, none⟩ (.int .i64 kk) (by show w.heap.size ≤ w.heap.size + 1; omega)).setx ⟨w.heap.size + 1, 1, none⟩ (.int .i64 nn) (by show w.heap.size ≤ w.heap.size + 1; omega))
  have b0 := HFr.out.2.1.1.cell 0
  simp at b0
  have n1 : ¬ w.heap.size = w.heap.size + 1 := by omega
  by_cases h0 : kk = 0
  · subst h0
    have HPt := hide_ HF4.out.1
    go_wp2_with fail
    refine (take_any HPt false (fun h => by cases h)).mono ?_; rintro e w5 (⟨i5, hj, rfl, HP5, HU⟩ | ⟨y, hy, rfl, HU⟩)
    · exfalso; cases hj
    · obtain rfl : (60, p) = y := by injection (show (Except.error (60, p) : PR Nat) = .error y from hy)
      clear hy
      unfold Flt
      go_wp2
      exact ⟨rfl, .inr ⟨(60, p), by rw [← HR.out]; unfold nodeP; rw [← HBe.out]; rfl, rfl, hide_ (HM4.out.upd (Mv.of HU.out v).1)⟩⟩
  have hb0 : (kk != 0) = true := by simpa using h0
  have HPt := hide_ HF4.out.1
  have hpl : p < ts.length := HNe.out h0
  go_wp2_with fail
  refine (take_any HPt true (fun _ => hpl)).mono ?_; rintro e w5 (⟨i5, hj, rfl, HP5, HU⟩ | ⟨y, hy, rfl, HU⟩)
  case inr => exfalso; cases hy
  have hi5 : i5 = p + 1 := by injection hj with hj; exact hj.symm
  subst hi5
  have HF5 := hide_ (HF4.out.mv (Mv.of HU.out v) HP5.out)
  have HM5 := hide_ (HM4.out.then HU.out)
  clear hj HU HF4 HM4 HFr HMv x0 x1 z0 z1 f1 b0 HP5 HPt hb0
  have g0 := HF5.out.2.1.2.cell 0
  have g3 := HF5.out.2.2.2.1.cell 3
  simp [tkc] at g0 g3
  have hd17 : (16 : Int) < d := by omega
  have HG := hide_ (fun W => giveUp_any 61 T.a W)
  go_wp2_with fail
  refine (HG.out _).mono ?_; rintro e w6 ⟨rfl, rfl⟩
  unfold Flt
  go_wp2
  exact ⟨rfl, .inr ⟨(61, p), by rw [← HR.out]; unfold nodeP; rw [← HBe.out, if_neg h0], by rw [HPl.out]; rfl, hide_ HM5.out.1⟩⟩
end Go.Proofs.Ytokepgimjdalaaa
