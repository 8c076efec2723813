import Derived.Test.YtcmkdkocponpiaaPart15
import Derived.Test.YtcmkdkocponpiaaPart18

/- mortiselaw22: awake. -/
namespace Go.Proofs.Ytcmkdkocponpiaa
open Go.RowKit
set_option linter.unusedVariables false

abbrev fA : Fr := ⟨3, 7, 0, -1, -1, 0, []⟩
abbrev fB : Fr := ⟨3, 7, 9, 300, 0, 2, [12, 300]⟩
/-- A stack, and three blocks beside it that stay. -/
structure AwM (w0 w : World) (F : Nat → Prop) (g : Nat) (fs : List Fr) (m h : Int) (ga gt gb : Nat) : Prop where
  st : Stk w w0.heap.size F g fs m h
  ka : Blk w ga 39 (frc (fA, .slice none 0 0))
  kt : Blk w gt 3 [.int .i64 12, .int .i64 300]
  kb : Blk w gb 39 (frc (fB, .slice (some ⟨gt, 0, none⟩) 2 2))
  na : ¬ F ga
  nt : ¬ F gt
  nb : ¬ F gb
  bl : Below w0.heap.size w0 w
theorem AwM.later {w0 w w' : World} {F : Nat → Prop} {g : Nat} {fs : List Fr} {m h : Int} {ga gt gb : Nat} (H : AwM w0 w F g fs m h ga gt gb) (hB : Below w.heap.size w w') : AwM w0 w' F g fs m h ga gt gb :=
  ⟨H.st.later hB, H.ka.later hB, H.kt.later hB, H.kb.later hB, H.na, H.nt, H.nb, below_to H.bl hB⟩
theorem AwM.to {w0 w w' : World} {F : Nat → Prop} {g : Nat} {fs fs' : List Fr} {m h h' : Int} {ga gt gb : Nat} (H : AwM w0 w F g fs m h ga gt gb) (hto : StkTo w w0.heap.size F w' g fs' m h') : ∃ F', AwM w0 w' F' g fs' m h' ga gt gb := by
  obtain ⟨F', h1, h2, h3⟩ := hto
  refine ⟨F', h1, H.ka.upd h2 H.na, H.kt.upd h2 H.nt, H.kb.upd h2 H.nb, ?_, ?_, ?_, H.bl.trans (h2.below w0.heap.size H.bl.size (fun k hk => (H.st.lt hk).1))⟩
  · intro e
    rcases h3 _ e with h4 | h4
    · exact H.na h4
    · have := H.ka.lt; omega
  · intro e
    rcases h3 _ e with h4 | h4
    · exact H.nt h4
    · have := H.kt.lt; omega
  · intro e
    rcases h3 _ e with h4 | h4
    · exact H.nb h4
    · have := H.kb.lt; omega
theorem AwM.upd {w0 w w' : World} {F S : Nat → Prop} {g : Nat} {fs : List Fr} {m h : Int} {ga gt gb : Nat} (H : AwM w0 w F g fs m h ga gt gb) (hu : Upd S w w') (h1 : ∀ k, F k → ¬ S k) (h2 : ¬ S ga) (h3 : ¬ S gt) (h4 : ¬ S gb) (hb : Below w0.heap.size w w') : AwM w0 w' F g fs m h ga gt gb :=
  ⟨H.st.upd hu h1, H.ka.upd hu h2, H.kt.upd hu h3, H.kb.upd hu h4, H.na, H.nt, H.nb, H.bl.trans hb⟩
theorem two_last {l : List Fr} {y : Fr} (h : [fA, fB] = l ++ [y]) : l = [fA] ∧ y = fB := by
  have h1 := List.append_inj' (s₁ := [fA]) (t₁ := [fB]) h rfl
  exact ⟨h1.1.symm, by have := h1.2; simp only [List.cons.injEq, and_true] at this; exact this.symm⟩
theorem AwM.fra {w0 w : World} {F : Nat → Prop} {g : Nat} {fs : List Fr} {m h : Int} {ga gt gb : Nat} (H : AwM w0 w F g fs m h ga gt gb) : FrA w fB (some ⟨gt, 0, none⟩) 2 :=
  ⟨Row.mk (fun i hi => by
    have h := H.kt.cell i
    rw [Nat.zero_add, h]
    have hi' : i < 2 := hi
    rcases (show i = 0 ∨ i = 1 by omega) with rfl | rfl <;> rfl), fun h => (by cases h), by decide⟩
theorem fra_nil (w : World) (f : Fr) (h : f.T = []) : FrA w f none 0 := ⟨.inl ⟨rfl, h⟩, fun _ => rfl, by rw [h]; exact Nat.zero_le _⟩
theorem sv_two : sv [fA, fB] 2 2 = [102, 2, 2, 2, 3, 7, 0, 0, 0, 0, 0, 3, 7, 9, 173, 2, 1, 2, 2, 12, 172, 2] := by decide +kernel
theorem sk_two : SkOk [fA, fB] 2 2 := ⟨by decide, by decide, by decide, fun f hf => by
  simp only [List.mem_cons, List.not_mem_nil, or_false] at hf
  rcases hf with rfl | rfl <;> decide⟩
set_option maxRecDepth 100000 in
set_option maxHeartbeats 32000000 in
theorem awake_any (w : World) : Calls Try.prog 6 #[] w fun e w' => e = .returned (.bool true) ∧ Below w.heap.size w w' := by
  have HNum : Hid (∀ (n : Int) w', Calls Try.prog 10 #[.int .i64 n] w' fun e w'' => e = .returned (.int .i64 n) ∧ w' = w'') := hide_ (fun n w' => num_any n w')
  go_enter Try.func6, Try.ntmps6
  go_wp2_with fail
  refine (new_any 2 w).mono ?_
  rintro e w1 (⟨hbad, -, -⟩ | ⟨-, -, F1, rfl, hS1, hB1⟩)
  · exact absurd ⟨by decide, by decide⟩ hbad
  have HS1 := hide_ hS1
  have HB1 := hide_ hB1
  clear hS1 hB1
  go_wp2_with fail
  refine (new_any 0 w1).mono ?_
  rintro e w1' (⟨-, rfl, rfl⟩ | ⟨hbad, -⟩)
  rotate_left
  · omega
  obtain ⟨w4, hw4⟩ : ∃ wx, wx = ((w1.alloc (.cells #[.int .i64 3, .int .i64 7, .int .i64 0, .int .i64 (-1), .int .i64 (-1), .int .i64 0, .slice none 0 0] 39)).alloc (.cells #[.int .i64 12, .int .i64 300] 3)).alloc (.cells #[.int .i64 3, .int .i64 7, .int .i64 9, .int .i64 300, .int .i64 0, .int .i64 2, .slice (some ⟨w1.heap.size + 1, 0, none⟩) 2 2] 39) := ⟨_, rfl⟩
  have HA4 : Hid (AwM w w4 F1 w.heap.size [] 2 0 w1.heap.size (w1.heap.size + 1) (w1.heap.size + 1 + 1)) := hide_ (by
    obtain ⟨k1, k2⟩ := blk2 w1 #[.int .i64 3, .int .i64 7, .int .i64 0, .int .i64 (-1), .int .i64 (-1), .int .i64 0, .slice none 0 0] #[.int .i64 12, .int .i64 300] 39 3
    have hb : Below w1.heap.size w1 w4 := by rw [hw4]; exact (below2 w1 _ _).alloc (by simp; omega) _
    have hn : ∀ k, w1.heap.size ≤ k → ¬ F1 k := fun k hk e => by have := (HS1.out.lt e).2; omega
    refine ⟨HS1.out.later hb, by rw [hw4]; exact k1.alloc _, by rw [hw4]; exact k2.alloc _, ?_, hn _ (Nat.le_refl _), hn _ (by omega), hn _ (by omega), below_to HB1.out hb⟩
    have h3 := Blk.newA ((w1.alloc (.cells #[.int .i64 3, .int .i64 7, .int .i64 0, .int .i64 (-1), .int .i64 (-1), .int .i64 0, .slice none 0 0] 39)).alloc (.cells #[.int .i64 12, .int .i64 300] 3)) #[.int .i64 3, .int .i64 7, .int .i64 9, .int .i64 300, .int .i64 0, .int .i64 2, .slice (some ⟨w1.heap.size + 1, 0, none⟩) 2 2] 39
    rw [hw4]
    simpa [frc] using h3)
  go_upto_region 7 with (go_at_call 10; refine (HNum.out _ _).mono ?_; rintro e w' ⟨rfl, rfl⟩)
  rw [← hw4]
  clear hw4 HS1 HB1
  generalize w1.heap.size = ga at *
  have a0 := HA4.out.ka.cell 0; have a1 := HA4.out.ka.cell 1; have a2 := HA4.out.ka.cell 2; have a3 := HA4.out.ka.cell 3; have a4 := HA4.out.ka.cell 4; have a5 := HA4.out.ka.cell 5; have a6 := HA4.out.ka.cell 6
  simp [frc] at a0 a1 a2 a3 a4 a5 a6
  go_wp2_with fail
  refine (push_any w4 w.heap.size F1 w.heap.size [] 2 0 fA none 0 (hide_ HA4.out.st) (hide_ (fra_nil w4 fA rfl)) HA4.out.bl.size).mono ?_
  rintro e w5 (⟨hb, -, -⟩ | ⟨-, hb, -, -⟩ | ⟨-, -, rfl, hto⟩)
  · simp at hb
  · exact absurd hb (by decide)
  obtain ⟨F5, hA5⟩ := HA4.out.to hto
  have HA5 : Hid (AwM w w5 F5 w.heap.size [fA] 2 1 ga (ga + 1) (ga + 1 + 1)) := hide_ (by
    have e : max (0 : Int) 1 = 1 := by decide
    have h := hA5
    simp at h
    rw [e] at h
    exact h)
  clear a0 a1 a2 a3 a4 a5 a6 hto hA5 HA4
  have b0 := HA5.out.kb.cell 0; have b1 := HA5.out.kb.cell 1; have b2 := HA5.out.kb.cell 2; have b3 := HA5.out.kb.cell 3; have b4 := HA5.out.kb.cell 4; have b5 := HA5.out.kb.cell 5; have b6 := HA5.out.kb.cell 6
  simp [frc] at b0 b1 b2 b3 b4 b5 b6
  go_wp2_with (go_at_call 10; refine (HNum.out _ _).mono ?_; rintro e w' ⟨rfl, rfl⟩)
  refine (push_any w5 w.heap.size F5 w.heap.size [fA] 2 1 fB (some ⟨ga + 1, 0, none⟩) 2 (hide_ HA5.out.st) (hide_ HA5.out.fra) HA5.out.bl.size).mono ?_
  rintro e w6 (⟨hb, -, -⟩ | ⟨-, hb, -, -⟩ | ⟨-, -, rfl, hto⟩)
  · simp at hb
  · exact absurd hb (by decide)
  obtain ⟨F6, hA6⟩ := HA5.out.to hto
  have HA6 : Hid (AwM w w6 F6 w.heap.size [fA, fB] 2 2 ga (ga + 1) (ga + 1 + 1)) := hide_ (by
    have e : max (1 : Int) 2 = 2 := by decide
    have h := hA6
    simp at h
    rw [e] at h
    exact h)
  clear b0 b1 b2 b3 b4 b5 b6 hto hA6 HA5
  have a0 := HA6.out.ka.cell 0; have a1 := HA6.out.ka.cell 1; have a2 := HA6.out.ka.cell 2; have a3 := HA6.out.ka.cell 3; have a4 := HA6.out.ka.cell 4; have a5 := HA6.out.ka.cell 5; have a6 := HA6.out.ka.cell 6
  simp [frc] at a0 a1 a2 a3 a4 a5 a6
  go_wp2_with (go_at_call 10; refine (HNum.out _ _).mono ?_; rintro e w' ⟨rfl, rfl⟩)
  refine (push_any w6 w.heap.size F6 w.heap.size [fA, fB] 2 2 fA none 0 (hide_ HA6.out.st) (hide_ (fra_nil w6 fA rfl)) HA6.out.bl.size).mono ?_
  rintro e w7 (⟨-, rfl, hto⟩ | ⟨hb, -, -, -⟩ | ⟨hb, -, -, -⟩)
  rotate_left
  · simp at hb
  · simp at hb
  obtain ⟨F7, hA7⟩ := HA6.out.to hto
  have HA7 := hide_ hA7
  clear a0 a1 a2 a3 a4 a5 a6 hto hA7 HA6
  have HLen := hide_ (lenS HA7.out.st (z := 2) rfl)
  have HHi := hide_ (highS HA7.out.st)
  go_wp2_with (first | (go_at_call 10; refine (HNum.out _ _).mono ?_; rintro e w' ⟨rfl, rfl⟩) | (go_at_call 11; refine HLen.out.mono ?_; rintro e w' ⟨rfl, rfl⟩) | (go_at_call 12; refine HHi.out.mono ?_; rintro e w' ⟨rfl, rfl⟩))
  refine (slots_any w7 w.heap.size F7 w.heap.size [fA, fB] 2 2 (hide_ HA7.out.st)).mono ?_
  rintro e w8 ⟨rfl, hB8⟩
  have HA8 := hide_ (HA7.out.later hB8)
  have hl2 : ((lastT [fA, fB]).length : Int) = 2 := rfl
  rw [hl2]
  clear hl2 hB8 HA7 HLen HHi
  go_wp2_with fail
  refine (slot_any w8 w.heap.size F7 w.heap.size [fA, fB] 2 2 1 (hide_ HA8.out.st)).mono ?_
  rintro e w9 (⟨hb, -, -⟩ | ⟨-, hb, -, -⟩ | ⟨-, -, -, rfl, hB9⟩)
  · cases hb
  · exact absurd ⟨by decide, by decide⟩ hb
  have HA9 := hide_ (HA8.out.later hB9)
  have hsl : (lastT [fA, fB]).getD (1 : Int).toNat 0 = 300 := rfl
  rw [hsl]
  clear hsl hB9 HA8
  go_wp2_with fail
  refine (save_any w9 w.heap.size F7 w.heap.size [fA, fB] 2 2 (hide_ HA9.out.st)).mono ?_
  rintro e w10 ⟨v, rfl, hO, hB10⟩
  have HA10 := hide_ (HA9.out.later hB10)
  have HWg : Hid (w.heap.size ≤ w10.heap.size) := hide_ HA10.out.bl.size
  obtain ⟨ac, cc, hv, hrow, hnil, hcc, hcm⟩ := BOwn.row hO
  subst hv
  unfold maxLen at hcm
  rw [sv_two] at hrow hcc
  have hlen : (sv [fA, fB] 2 2).length = 22 := by rw [sv_two]; rfl
  rw [hlen]
  have HRow := hide_ hrow
  clear hO hB10 HA9 hrow hlen
  have hby : Bys [102, 2, 2, 2, 3, 7, 0, 0, 0, 0, 0, 3, 7, 9, 173, 2, 1, 2, 2, 12, 172, 2] := by unfold Bys; decide
  have HLd := hide_ (load_any ac cc [102, 2, 2, 2, 3, 7, 0, 0, 0, 0, 0, 3, 7, 9, 173, 2, 1, 2, 2, 12, 172, 2] w10 HRow hnil (hide_ hby) hcc hcm)
  have HD : Hid (ldP [102, 2, 2, 2, 3, 7, 0, 0, 0, 0, 0, 3, 7, 9, 173, 2, 1, 2, 2, 12, 172, 2] = .ok ([fA, fB], 2, 2)) := hide_ (by
    have h := ldC sk_two [] 22 (by rw [List.append_nil, sv_two]; decide)
    rw [List.append_nil, sv_two] at h
    exact h)
  clear hby hcc
  go_wp2_with fail
  refine HLd.out.mono ?_
  rintro e w11 (⟨fs, m, h, F2, gs, hx, rfl, HS2, HB11⟩ | ⟨er, at_, hx, -, -⟩)
  rotate_left
  · rw [HD.out] at hx; cases hx
  rw [HD.out] at hx
  injection hx with hx
  injection hx with e1 hx
  injection hx with e2 e3
  subst e1 e2 e3
  have HA11 := hide_ (HA10.out.later HB11.out)
  have HRow11 := hide_ (HRow.out.later HB11.out)
  have HFl : Hid (∀ k, F2 k → w10.heap.size ≤ k ∧ k < w11.heap.size) := hide_ (fun k hk => HS2.out.lt hk)
  have HL10 : Hid ((∀ k, F7 k → k < w10.heap.size) ∧ ga < w10.heap.size ∧ ga + 1 < w10.heap.size ∧ ga + 1 + 1 < w10.heap.size) := hide_ ⟨fun k hk => (HA10.out.st.lt hk).2, HA10.out.ka.lt, HA10.out.kt.lt, HA10.out.kb.lt⟩
  obtain ⟨w12, hw12⟩ : ∃ wx, wx = w11.alloc (.cells #[.int .i64 0, .int .i64 0] 31) := ⟨_, rfl⟩
  have hB12 : Below w11.heap.size w11 w12 := by rw [hw12]; exact below1 _ _
  have kf : Blk w12 w11.heap.size 31 [.int .i64 0, .int .i64 0] := by rw [hw12]; exact Blk.newA w11 _ _
  have f0 := kf.cell 0
  simp at f0
  have HA12 := hide_ (HA11.out.later hB12)
  have HS12 := hide_ (HS2.out.later hB12)
  have hcv : (convert 23 9 (.slice ac 22 cc)).run Try.prog w12 = .ok (.string ⟨#[102, 2, 2, 2, 3, 7, 0, 0, 0, 0, 0, 3, 7, 9, 173, 2, 1, 2, 2, 12, 172, 2]⟩) w12 := conv_row E23 Try.underlying9 w12 ac 22 cc [102, 2, 2, 2, 3, 7, 0, 0, 0, 0, 0, 3, 7, 9, 173, 2, 1, 2, 2, 12, 172, 2] rfl (HRow11.out.later hB12)
  have HB12s : Hid (w11.heap.size ≤ w12.heap.size) := hide_ hB12.size
  have HB11s : Hid (w10.heap.size ≤ w11.heap.size) := hide_ HB11.out.size
  clear hB12 kf HA10 HA11 HRow HRow11 HS2 HB11 HLd HD
  go_upto_region 12 with fail
  rw [← hw12]
  clear hw12
  go_wp2_with (go_at_call 10; refine (HNum.out _ _).mono ?_; rintro e w' ⟨rfl, rfl⟩)
  refine (pop_any w12 w10.heap.size F2 gs [fA, fB] 2 2 HS12 (by have := HB12s.out; have := HB11s.out; omega)).mono ?_
  rintro e w13 (⟨hb, -⟩ | ⟨l, f, a2, c2, hfs, rfl, HI13, -, HU13⟩)
  · cases hb
  obtain ⟨rfl, rfl⟩ := two_last hfs
  have HA13 : Hid (AwM w w13 F7 w.heap.size [fA, fB] 2 2 ga (ga + 1) (ga + 1 + 1)) := hide_ (by
    obtain ⟨l1, l2, l3, l4⟩ := HL10.out
    refine HA12.out.upd HU13.out (fun k hk e => ?_) (fun e => ?_) (fun e => ?_) (fun e => ?_) (HU13.out.below w.heap.size HA12.out.bl.size (fun k hk => ?_))
    · have := (HFl.out k e).1; have := l1 k hk; omega
    · have := (HFl.out _ e).1; omega
    · have := (HFl.out _ e).1; omega
    · have := (HFl.out _ e).1; omega
    · have h1 := (HFl.out k hk).1
      have h3 := HWg.out
      omega)
  clear HA12 HU13 HS12 hfs hcv f0
  obtain ⟨w14, hw14⟩ : ∃ wx, wx = w13.alloc (.cells #[.int .i64 3, .int .i64 7, .int .i64 9, .int .i64 300, .int .i64 0, .int .i64 2, .slice a2 2 c2] 39) := ⟨_, rfl⟩
  have hB14 : Below w13.heap.size w13 w14 := by rw [hw14]; exact below1 _ _
  have K14 : Hid (Blk w14 w13.heap.size 39 (frc (fB, .slice a2 2 c2))) := hide_ (by rw [hw14]; exact Blk.newA w13 _ _)
  have HA14 := hide_ (HA13.out.later hB14)
  have HI14 := hide_ (HI13.out.later hB14)
  clear hB14 HA13 HI13
  go_upto_region 15 with fail
  rw [← hw14]
  clear hw14
  go_wp2_with fail
  refine (head_any w14 w.heap.size F7 w.heap.size [fA, fB] 2 2 (hide_ HA14.out.st)).mono ?_
  rintro e w15 (⟨hb, -⟩ | ⟨l, f, hfs, rfl, hB15⟩)
  · cases hb
  obtain ⟨rfl, rfl⟩ := two_last hfs
  have HA15 := hide_ (HA14.out.later hB15)
  have HI15 := hide_ (HI14.out.later hB15)
  have K15 := hide_ (K14.out.later hB15)
  obtain ⟨w16, hw16⟩ : ∃ wx, wx = w15.alloc (.cells #[.int .i64 3, .int .i64 7, .int .i64 9, .int .i64 300, .int .i64 0, .int .i64 2, .slice none 0 0] 39) := ⟨_, rfl⟩
  have hB16 : Below w15.heap.size w15 w16 := by rw [hw16]; exact below1 _ _
  have J16 : Hid (Blk w16 w15.heap.size 39 (frc (⟨3, 7, 9, 300, 0, 2, []⟩, .slice none 0 0))) := hide_ (by rw [hw16]; exact Blk.newA w15 _ _)
  have HA16 := hide_ (HA15.out.later hB16)
  have HI16 := hide_ (HI15.out.later hB16)
  have K16 := hide_ (K15.out.later hB16)
  clear hB15 hB16 HA14 HI14 K14 HA15 HI15 K15 hfs
  go_upto_region 16 with fail
  rw [← hw16]
  clear hw16
  have y0 := K16.out.cell 0; have y1 := K16.out.cell 1; have y2 := K16.out.cell 2; have y3 := K16.out.cell 3; have y4 := K16.out.cell 4; have y5 := K16.out.cell 5; have y6 := K16.out.cell 6
  have b0 := HA16.out.kb.cell 0; have b1 := HA16.out.kb.cell 1; have b2 := HA16.out.kb.cell 2; have b3 := HA16.out.kb.cell 3; have b4 := HA16.out.kb.cell 4; have b5 := HA16.out.kb.cell 5; have b6 := HA16.out.kb.cell 6
  simp [frc] at y0 y1 y2 y3 y4 y5 y6
  simp [frc] at b0 b1 b2 b3 b4 b5 b6
  have hfy : FrA w16 fB a2 c2 := by
    obtain ⟨a9, c9, h9, hf9⟩ := HI16.out.fra (f := fB)
    injection h9 with h91 _ h93
    subst h91 h93
    exact hf9
  have HSame := hide_ (same_yes fB a2 (some ⟨ga + 1, 0, none⟩) c2 2 w16 (hide_ hfy) (hide_ HA16.out.fra))
  clear hfy
  go_wp2_with (go_at_call 10; refine (HNum.out _ _).mono ?_; rintro e w' ⟨rfl, rfl⟩)
  refine HSame.out.mono ?_
  rintro e w17 ⟨rfl, hB17⟩
  have HA17 := hide_ (HA16.out.later hB17)
  have J17 := J16.out.later hB17
  clear y0 y1 y2 y3 y4 y5 y6
  clear b0 b1 b2 b3 b4 b5 b6
  have z5 := J17.cell 5; have z6 := J17.cell 6
  simp [frc] at z5 z6
  have a0 := HA17.out.ka.cell 0; have a1 := HA17.out.ka.cell 1; have a2 := HA17.out.ka.cell 2; have a3 := HA17.out.ka.cell 3; have a4 := HA17.out.ka.cell 4; have a5 := HA17.out.ka.cell 5; have a6 := HA17.out.ka.cell 6
  simp [frc] at a0 a1 a2 a3 a4 a5 a6
  clear HSame hB17 J17 HA16
  go_wp2_with (go_at_call 10; refine (HNum.out _ _).mono ?_; rintro e w' ⟨rfl, rfl⟩)
  refine (go_any w17 w.heap.size F7 w.heap.size [fA, fB] 2 2 fA none 0 0 (hide_ HA17.out.st) HA17.out.bl.size).mono ?_
  rintro e w18 (⟨hb, -⟩ | ⟨-, hb, -⟩ | ⟨l, y, hfs, -, rfl, hto⟩)
  · cases hb
  · exact absurd hb (by decide)
  obtain ⟨rfl, rfl⟩ := two_last hfs
  obtain ⟨F18, hA18⟩ := HA17.out.to hto
  have HA18 := hide_ hA18
  clear a0 a1 a2 a3 a4 a5 a6
  clear z5 z6 hfs hto hA18 HA17
  go_wp2_with (go_at_call 10; refine (HNum.out _ _).mono ?_; rintro e w' ⟨rfl, rfl⟩)
  refine (mark_any w18 w.heap.size F18 w.heap.size ([fA] ++ [hdf fA [12, 300]]) 2 2 301 (hide_ HA18.out.st) HA18.out.bl.size).mono ?_
  rintro e w19 (⟨hb, -⟩ | ⟨-, hb, -⟩ | ⟨-, -, hb, -⟩ | ⟨l, y, hfs, -, -, rfl, hto⟩)
  · simp at hb
  · exact absurd hb (by decide)
  · exact absurd hb (by decide)
  have hyl : y = hdf fA [12, 300] := by
    have h1 := List.append_inj' hfs rfl
    have := h1.2
    simp only [List.cons.injEq, and_true] at this
    exact this.symm
  subst hyl
  obtain ⟨F19, hA19⟩ := HA18.out.to hto
  have HA19 := hide_ hA19
  clear hfs hto hA19 HA18
  have HSl : Hid (Calls Try.prog 20 #[.pointer (some ⟨w.heap.size, 0, none⟩)] w19 fun e w' => e = .returned (.int .i64 3) ∧ Below w19.heap.size w19 w') := hide_ (by
    have h := slots_any w19 w.heap.size F19 w.heap.size (l ++ [hdf (hdf fA [12, 300]) ((hdf fA [12, 300]).T ++ [301])]) 2 2 (hide_ HA19.out.st)
    rw [lastT_app] at h
    exact h)
  go_wp2_with (go_at_call 10; refine (HNum.out _ _).mono ?_; rintro e w' ⟨rfl, rfl⟩)
  refine HSl.out.mono ?_
  rintro e w20 ⟨rfl, hB20⟩
  have HBf := hide_ (below_to HA19.out.bl hB20)
  clear hB20
  go_wp2_with fail
  go_ret
  exact ⟨rfl, HBf.out⟩
end Go.Proofs.Ytcmkdkocponpiaa

/- mortiselaw22: FramesStack. -/
namespace Go.Proofs.Ytcmkdkocponpiaa
open Go.RowKit
set_option linter.unusedVariables false

/-- The stack with its last frame, the statement's list beside it, and the frame x in a block of its own. -/
structure XSt (w0 w : World) (F : Nat → Prop) (g : Nat) (fs : List Fr) (X : Fr) (m h : Int) (v : Value) (P : List (Fr × Value)) (bx : Nat) (vx : Value) : Prop where
  st : Stk w w0.heap.size F g (fs ++ [X]) m h
  ow : FOwn w w0.heap.size v P
  ap : ∀ k, OwB v P k → ¬ F k
  kx : Blk w bx 39 (frc (X, vx))
  nx : ¬ F bx
  nv : ¬ OwB v P bx
  bl : Below w0.heap.size w0 w
theorem XSt.later {w0 w w' : World} {F : Nat → Prop} {g : Nat} {fs : List Fr} {X : Fr} {m h : Int} {v : Value} {P : List (Fr × Value)} {bx : Nat} {vx : Value} (H : XSt w0 w F g fs X m h v P bx vx) (hB : Below w.heap.size w w') : XSt w0 w' F g fs X m h v P bx vx :=
  ⟨H.st.later hB, H.ow.later hB, H.ap, H.kx.later hB, H.nx, H.nv, below_to H.bl hB⟩
/-- x's table is one of its own. -/
structure XIn (w0 w : World) (F : Nat → Prop) (g : Nat) (fs : List Fr) (X : Fr) (m h : Int) (v : Value) (P : List (Fr × Value)) (bx : Nat) (vx : Value) : Prop where
  xs : XSt w0 w F g fs X m h v P bx vx
  ix : IOwn w w0.heap.size vx X.T
  tn : ∀ k, vx.ownBlock = some k → ¬ F k ∧ ¬ OwB v P k
theorem XIn.later {w0 w w' : World} {F : Nat → Prop} {g : Nat} {fs : List Fr} {X : Fr} {m h : Int} {v : Value} {P : List (Fr × Value)} {bx : Nat} {vx : Value} (H : XIn w0 w F g fs X m h v P bx vx) (hB : Below w.heap.size w w') : XIn w0 w' F g fs X m h v P bx vx :=
  ⟨H.xs.later hB, H.ix.later hB, H.tn⟩
theorem s7o (w : World) (g o : Nat) (f : Fr) (v : Value) : ((((((w.setCell ⟨g, o, none⟩ (.int .i64 f.r)).setCell ⟨g, o + 1, none⟩ (.int .i64 f.a)).setCell ⟨g, o + 2, none⟩ (.int .i64 f.b)).setCell ⟨g, o + 3, none⟩ (.int .i64 f.e)).setCell ⟨g, o + 4, none⟩ (.int .i64 f.n)).setCell ⟨g, o + 5, none⟩ (.int .i64 f.x)).setCell ⟨g, o + 6, none⟩ v = set7 w g o f v := by simp only [set7]
theorem FOwn.at7 {w : World} {B gO n cap j : Nat} {P : List (Fr × Value)} {f : Fr} {v : Value} (h : FOwn w B (.slice (some ⟨gO, 0, none⟩) n cap) P) (hx : P[j]? = some (f, v)) :
    w.cell? ⟨gO, j * 7, none⟩ = some (.int .i64 f.r) ∧ w.cell? ⟨gO, j * 7 + 1, none⟩ = some (.int .i64 f.a) ∧ w.cell? ⟨gO, j * 7 + 2, none⟩ = some (.int .i64 f.b) ∧ w.cell? ⟨gO, j * 7 + 3, none⟩ = some (.int .i64 f.e) ∧ w.cell? ⟨gO, j * 7 + 4, none⟩ = some (.int .i64 f.n) ∧ w.cell? ⟨gO, j * 7 + 5, none⟩ = some (.int .i64 f.x) ∧ w.cell? ⟨gO, j * 7 + 6, none⟩ = some v := by
  obtain ⟨a, c, e, -, -, hr⟩ := h.slice
  injection e with e1 _ _
  subst e1
  have hl := (List.getElem?_eq_some_iff.1 hx).1
  obtain ⟨b, o, e2, -, hc⟩ := hr.open (by omega)
  injection e2 with e2
  injection e2 with e3 e4 _
  subst e3 e4
  have hcx := hc j _ hx
  have h0 := hcx 0 (by decide); have h1 := hcx 1 (by decide); have h2 := hcx 2 (by decide); have h3 := hcx 3 (by decide); have h4 := hcx 4 (by decide); have h5 := hcx 5 (by decide); have h6 := hcx 6 (by decide)
  simp only [Nat.zero_add, Nat.add_zero] at h0 h1 h2 h3 h4 h5 h6
  exact ⟨h0, h1, h2, h3, h4, h5, h6⟩
theorem FOwn.froz {w : World} {B gO n cap : Nat} {P : List (Fr × Value)} (h : FOwn w B (.slice (some ⟨gO, 0, none⟩) n cap) P) (hl : 0 < P.length) (o : Nat) : w.frozen? ⟨gO, o, none⟩ = false := by
  obtain ⟨g, cap', ys, e, -, -, -, -, -, hk⟩ := ownS_blk h.row hl
  injection e with e1 _ _
  injection e1 with e1
  injection e1 with e1 _ _
  subst e1
  exact hk.frozen o
set_option maxRecDepth 100000 in
set_option maxHeartbeats 32000000 in
theorem fstack_any (a ao am : Option Addr) (c co cm : Nat) (L : List (Fr × Value)) (f : Fr) (M : List Int) (gone : Int) (w : World) (hcap : L.length ≤ c) (hcmx : c ≤ 9223372036854775807) (hco : f.T.length ≤ co) (hcox : co ≤ 9223372036854775807) (hml : M.length ≤ 9223372036854775806) (hL : Hid (LRow w a L)) (hA : Hid (FrA w f ao co)) (hM : Hid (Row .i64 w am M)) :
    Calls Try.prog 4 #[.slice a L.length c, .int .i64 gone, .agg #[.int .i64 f.r, .int .i64 f.a, .int .i64 f.b, .int .i64 f.e, .int .i64 f.n, .int .i64 f.x, .slice ao f.T.length co], .slice am M.length cm] w fun e w' => e = .returned (.bool true) ∧ Below w.heap.size w w' := by
  have HNum : Hid (∀ (n : Int) w', Calls Try.prog 10 #[.int .i64 n] w' fun e w'' => e = .returned (.int .i64 n) ∧ w' = w'') := hide_ (fun n w' => num_any n w')
  obtain ⟨w1, hw1⟩ : ∃ wx, wx = w.alloc (.cells #[.int .i64 f.r, .int .i64 f.a, .int .i64 f.b, .int .i64 f.e, .int .i64 f.n, .int .i64 f.x, .slice ao f.T.length co] 39) := ⟨_, rfl⟩
  have hB1 : Below w.heap.size w w1 := by rw [hw1]; exact below1 _ _
  have k1 : Blk w1 w.heap.size 39 (frc (f, .slice ao f.T.length co)) := by rw [hw1]; exact Blk.newA w _ _
  have HK1 := hide_ k1
  have HL1 := hide_ (hL.out.later hB1)
  have HA1 := hide_ (hA.out.later hB1)
  have HM1 := hide_ (hM.out.later hB1)
  have HB1 := hide_ hB1
  clear hL hA hM hB1 k1
  go_enter Try.func4, Try.ntmps4
  go_upto_region 1 with fail
  rw [← hw1]
  clear hw1
  go_wp2_with fail
  refine (awake_any w1).mono ?_
  rintro e w2 ⟨rfl, hB2⟩
  have HK2 := hide_ (HK1.out.later hB2)
  have HL2 := hide_ (HL1.out.later hB2)
  have HA2 := hide_ (HA1.out.later hB2)
  have HM2 := hide_ (HM1.out.later hB2)
  have HB2 := hide_ (below_to HB1.out hB2)
  clear hB2 HK1 HL1 HA1 HM1 HB1
  go_wp2_with fail
  refine (filled_any a c L gone w2 hcap hcmx HL2).mono ?_
  rintro e w3 ⟨F, g, v, P, rfl, hPn, hT⟩
  have hnb : (L.take 40).length ≤ 40 := by rw [List.length_take]; omega
  generalize (L.take 40).length = n at *
  have HT := hide_ hT
  have HBo : Hid (w.heap.size < w2.heap.size) := hide_ HK2.out.lt
  clear hT
  obtain ⟨av, cv, rfl, -⟩ := HT.out.ow.slice
  have HRg : Hid (∀ w', Below w2.heap.size w2 w' → Calls Try.prog 19 #[.agg #[.int .i64 f.r, .int .i64 f.a, .int .i64 f.b, .int .i64 f.e, .int .i64 f.n, .int .i64 f.x, .slice ao f.T.length co]] w' fun e w'' => ∃ a' c', e = .returned (.agg #[.int .i64 (rgt f).r, .int .i64 (rgt f).a, .int .i64 (rgt f).b, .int .i64 (rgt f).e, .int .i64 (rgt f).n, .int .i64 (rgt f).x, .slice a' (rgt f).T.length c']) ∧ Hid (IOwn w'' w'.heap.size (.slice a' (rgt f).T.length c') (rgt f).T) ∧ Hid (Below w'.heap.size w' w'')) := hide_ (fun w' hb => rgt_any f ao co w' (hide_ (HA2.out.later hb)) hco hcox)
  have HOk := hide_ (rgt_ok f)
  have HSm : Hid ((rgt f).T.length ≤ 300) := hide_ (by simp only [rgt, List.length_map, List.length_take]; omega)
  obtain ⟨R, hR⟩ : ∃ R, rgt f = R := ⟨_, rfl⟩
  rw [hR] at HRg HOk HSm
  have HKo : Hid (∀ w', Below w2.heap.size w2 w' → w'.cell? ⟨w.heap.size, 0, none⟩ = some (.int .i64 f.r) ∧ w'.cell? ⟨w.heap.size, 1, none⟩ = some (.int .i64 f.a) ∧ w'.cell? ⟨w.heap.size, 2, none⟩ = some (.int .i64 f.b) ∧ w'.cell? ⟨w.heap.size, 3, none⟩ = some (.int .i64 f.e) ∧ w'.cell? ⟨w.heap.size, 4, none⟩ = some (.int .i64 f.n) ∧ w'.cell? ⟨w.heap.size, 5, none⟩ = some (.int .i64 f.x) ∧ w'.cell? ⟨w.heap.size, 6, none⟩ = some (.slice ao f.T.length co)) := hide_ (fun w' hb => by
    have k := HK2.out.later hb
    exact ⟨k.cell 0, k.cell 1, k.cell 2, k.cell 3, k.cell 4, k.cell 5, k.cell 6⟩)
  clear hR HA2 HL2 HK2
  rcases List.eq_nil_or_concat P with rfl | ⟨Q, p, rfl⟩
  · -- no frames
    go_wp2_with fail
    refine (top_any w3 w2.heap.size F g _ _ _ (hide_ HT.out.st)).mono ?_
    rintro e w4 (⟨-, rfl, hB4⟩ | ⟨l, y, a4, c4, hb, -, -, -⟩)
    rotate_left
    · simp at hb
    have HT4 := hide_ (HT.out.later hB4)
    obtain ⟨w5, hw5⟩ : ∃ wx, wx = w4.alloc (.cells #[.int .i64 0, .int .i64 0, .int .i64 0, .int .i64 0, .int .i64 0, .int .i64 0, .slice none 0 0] 39) := ⟨_, rfl⟩
    have hB5 : Below w4.heap.size w4 w5 := by rw [hw5]; exact below1 _ _
    have HT5 := hide_ (HT4.out.later hB5)
    clear hB4 hB5 HT HT4
    obtain ⟨o0, o1, o2, o3, o4, o5, o6⟩ := HKo.out w5 HT5.out.bl
    go_upto_region 8 with fail
    rw [← hw5]
    clear hw5
    go_wp2_with (go_at_call 10; refine (HNum.out _ _).mono ?_; rintro e w' ⟨rfl, rfl⟩)
    refine (HRg.out w5 HT5.out.bl).mono ?_
    rintro e w6 ⟨a6, c6, rfl, HI6, HB6⟩
    have HT6 := hide_ (HT5.out.later HB6.out)
    obtain ⟨a9, c9, h9, hf9⟩ := HI6.out.fra (f := R)
    injection h9 with h91 _ h93
    subst h91 h93
    have HF9 := hide_ hf9
    clear o0 o1 o2 o3 o4 o5 o6 hf9
    go_wp2_with fail
    refine (set_any w6 w2.heap.size F g _ _ _ R a6 c6 (hide_ HT6.out.st) HF9 HT6.out.bl.size).mono ?_
    rintro e w7 (⟨-, rfl, hto⟩ | ⟨hb, -⟩ | ⟨l, y, hb, -⟩)
    rotate_left
    · exact absurd rfl hb
    · simp at hb
    obtain ⟨F7, hS7, hU7, -⟩ := hto
    have HS7 := hide_ hS7
    have HB7 := hide_ (HT6.out.bl.trans (hU7.below w2.heap.size HT6.out.bl.size (fun k hk => (HT6.out.st.lt hk).1)))
    clear hS7 hU7
    go_wp2_with (go_at_call 10; refine (HNum.out _ _).mono ?_; rintro e w' ⟨rfl, rfl⟩)
    have HSl : Hid (Calls Try.prog 20 #[.pointer (some ⟨g, 0, none⟩)] w7 fun e w' => e = .returned (.int .i64 0) ∧ Below w7.heap.size w7 w') := hide_ (slots_any w7 w2.heap.size F7 g [] _ _ HS7)
    refine HSl.out.mono ?_
    rintro e w8 ⟨rfl, hB8⟩
    have HB8 := hide_ (below_to HB2.out (below_to HB7.out hB8))
    clear hB8
    go_wp2_with fail
    go_ret
    exact ⟨rfl, HB8.out⟩
  rw [List.concat_eq_append] at HT hPn
  have hpl : (Q ++ [p]).length = Q.length + 1 := by simp
  obtain ⟨gO, capO, hsl, hqc, hcm2, -, -, -, -, -⟩ := HT.out.ow.last
  rw [hpl] at hsl hPn
  unfold maxLen at hcm2
  have HTs := hsl
  rw [hpl] at HT
  rw [hsl] at HT
  rw [List.concat_eq_append, hpl, hsl]
  clear hsl HTs hpl
  obtain ⟨y, pv⟩ := p
  obtain ⟨a9, c9, h9, hfa9⟩ := (HT.out.ow.tb (y, pv) (List.mem_append_right _ (List.mem_singleton.2 rfl))).fra
  have h9' : pv = .slice a9 y.T.length c9 := h9
  subst h9'
  have hySm := HT.out.sm (y, .slice a9 y.T.length c9) (List.mem_append_right _ (List.mem_singleton.2 rfl))
  have HYs : Hid (y.T.length ≤ 300) := hide_ hySm
  have hlast : (Q ++ [(y, Value.slice a9 y.T.length c9)]).map (·.1) = Q.map (·.1) ++ [y] := by rw [List.map_append]; rfl
  have HLa := hide_ hlast
  obtain ⟨o0, o1, o2, o3, o4, o5, o6⟩ := HKo.out w3 HT.out.bl
  clear h9 hySm hlast hfa9 av cv
  have hq0 : ((Q.length : Int) + 1 == 0) = false := by simp; omega
  go_wp2_with fail
  refine (HRg.out w3 HT.out.bl).mono ?_
  rintro e w4 ⟨a4, c4, rfl, HI4, HB4⟩
  obtain ⟨w5, hw5⟩ : ∃ wx, wx = w4.alloc (.cells #[.int .i64 R.r, .int .i64 R.a, .int .i64 R.b, .int .i64 R.e, .int .i64 R.n, .int .i64 R.x, .slice a4 R.T.length c4] 39) := ⟨_, rfl⟩
  have hB5 : Below w4.heap.size w4 w5 := by rw [hw5]; exact below1 _ _
  have K5 : Hid (Blk w5 w4.heap.size 39 (frc (R, .slice a4 R.T.length c4))) := hide_ (by rw [hw5]; exact Blk.newA w4 _ _)
  have HT5 := hide_ ((HT.out.later HB4.out).later hB5)
  have HI5 := hide_ (HI4.out.later hB5)
  have HFl : Hid (∀ k, F k → k < w3.heap.size) := hide_ (fun k hk => (HT.out.st.lt hk).2)
  have HOl : Hid (∀ k, OwB (.slice (some ⟨gO, 0, none⟩) (Q.length + 1) capO) (Q ++ [(y, .slice a9 y.T.length c9)]) k → k < w3.heap.size) := hide_ (fun k hk => (HT.out.ow.lies hk).2)
  have HI5l : Hid (∀ k, (Value.slice a4 R.T.length c4).ownBlock = some k → w3.heap.size ≤ k ∧ k < w4.heap.size) := hide_ (fun k hk => HI4.out.lies hk)
  have hs34 : w3.heap.size ≤ w4.heap.size := HB4.out.size
  clear o0 o1 o2 o3 o4 o5 o6 hB5
  go_upto_region 10 with fail
  rw [← hw5]
  clear hw5
  generalize w4.heap.size = bx at *
  have hz2 : ((2 : Int) == 0) = false := rfl
  have hbx5 : bx < w5.heap.size := K5.out.lt
  go_upto_if 64 with fail
  go_cut [8] from 64 to 83 (fun x8 wc => ∃ (X : Fr) (F' : Nat → Prop) (ax : Option Addr) (cx : Nat) (wd : World), wd = wc ∧ X.T.length ≤ 300 ∧ Hid (XSt w2 wd F' g (Q.map (·.1)) X ((n : Int) + 1) (n : Int) (.slice (some ⟨gO, 0, none⟩) (Q.length + 1) capO) (Q ++ [(y, .slice a9 y.T.length c9)]) bx (.slice ax X.T.length cx)) ∧ Hid (FrA wd X ax cx))
  case first =>
    have k0 := K5.out.cell 0; have k1 := K5.out.cell 1; have k2 := K5.out.cell 2; have k3 := K5.out.cell 3; have k4 := K5.out.cell 4; have k5 := K5.out.cell 5; have k6 := K5.out.cell 6
    have z6 := K5.out.frozen 6
    simp [frc] at k0 k1 k2 k3 k4 k5 k6
    have hnv : ¬ OwB (.slice (some ⟨gO, 0, none⟩) (Q.length + 1) capO) (Q ++ [(y, .slice a9 y.T.length c9)]) bx := fun e => by have := HOl.out bx e; omega
    have hnf : ¬ F bx := fun e => by have := HFl.out bx e; omega
    have HNv := hide_ hnv
    have HNf := hide_ hnf
    obtain ⟨a8, c8, h8, hf8⟩ := HI5.out.fra (f := R)
    injection h8 with h81 _ h83
    subst h81 h83
    have HF8 := hide_ hf8
    clear hnv hnf hf8
    by_cases hev : (M.length : Int) % 2 = 0
    · have hev' : ((M.length : Int) % 2 == 0) = true := by rw [hev]; rfl
      clear hev
      go_wp2_with fail
      refine (set_any w5 w2.heap.size F g _ _ _ R a4 c4 (hide_ HT5.out.st) HF8 HT5.out.bl.size).mono ?_
      rintro e w6 (⟨hb, -⟩ | ⟨-, hb, -⟩ | ⟨l, y', hfs, -, rfl, hto⟩)
      · simp at hb
      · rw [HOk.out] at hb; cases hb
      obtain ⟨rfl, rfl⟩ : l = Q.map (·.1) ∧ y' = y := by
        rw [HLa.out] at hfs
        have h1 := List.append_inj' hfs rfl
        exact ⟨h1.1.symm, by have := h1.2; simp at this; exact this.symm⟩
      obtain ⟨F6, hS6, hU6, hF6⟩ := hto
      have hx6 : XSt w2 w6 F6 g (Q.map (·.1)) R ((n : Int) + 1) (n : Int) (.slice (some ⟨gO, 0, none⟩) (Q.length + 1) capO) (Q ++ [(y', .slice a9 y'.T.length c9)]) bx (.slice a4 R.T.length c4) :=
        ⟨hS6, HT5.out.ow.updO hU6 HT5.out.ap, fun k hk hF => by
          rcases hF6 k hF with h1 | h1
          · exact HT5.out.ap k hk h1
          · have := HOl.out k hk; omega, K5.out.upd hU6 HNf.out, fun hF => by
          rcases hF6 _ hF with h1 | h1
          · exact HNf.out h1
          · omega, HNv.out, HT5.out.bl.trans (hU6.below w2.heap.size HT5.out.bl.size (fun k hk => (HT5.out.st.lt hk).1))⟩
      have hi6 := HI5.out.upd hU6 (fun k hk e => by have h1 := (HI5l.out k hk).1; have h2 := HFl.out k e; omega)
      obtain ⟨a7, c7, h7, hf7⟩ := hi6.fra (f := R)
      injection h7 with h71 _ h73
      subst h71 h73
      have HX6 := hide_ hx6
      have HF7 := hide_ hf7
      clear hfs hS6 hU6 hF6 hx6 hi6 hf7 k0 k1 k2 k3 k4 k5 k6 z6
      go_wp2_with (go_at_call 10; refine (HNum.out _ _).mono ?_; rintro e w' ⟨rfl, rfl⟩)
      go_meet
      case rel => exact ⟨R, F6, a4, c4, _, rfl, HSm.out, HX6, HF7⟩
    · have hev' : ((M.length : Int) % 2 == 0) = false := by rw [beq_eq_false_iff_ne]; exact hev
      clear hev
      obtain ⟨gF, capF, he, -, -, -, -, hcc, -, -⟩ := HT5.out.ow.last
      injection he with he1 he2 he3
      injection he1 with he1
      injection he1 with he1 _ _
      subst he1
      have l6 := hcc 6 (by decide)
      simp [frc] at l6
      have hqi := i64w (Q.length : Int) (by omega)
      have hqlt : (Q.length : Int) < (Q.length : Int) + 1 := by omega
      have hset := (Upd.refl (fun k => k = bx) w5).set ⟨bx, 6, none⟩ (.slice a9 y.T.length c9) (.inl rfl)
      have hk6 := K5.out.set 6 (.slice a9 y.T.length c9)
      have hb6 : Below w2.heap.size w2 (w5.setCell ⟨bx, 6, none⟩ (.slice a9 y.T.length c9)) := below_set HT5.out.bl _ _ _ (by have := HT.out.bl.size; omega)
      have hst6 := HT5.out.st.upd hset (fun k hk e => by subst e; exact HNf.out hk)
      have how6 := HT5.out.ow.updO hset (fun k hk e => by subst e; exact HNv.out hk)
      obtain ⟨w6, hw6⟩ : ∃ w6, w6 = w5.setCell ⟨bx, 6, none⟩ (.slice a9 y.T.length c9) := ⟨_, rfl⟩
      rw [← hw6] at hk6 hb6 hst6 how6
      have HK6 := hide_ hk6
      have HB6 := hide_ hb6
      have HS6 := hide_ hst6
      have HO6 := hide_ how6
      obtain ⟨o0, o1, o2, o3, o4, o5, o6⟩ := HKo.out w6 hb6
      have hs56 : w6.heap.size = w5.heap.size := by rw [hw6, World.size_setCell]
      have HS56 := hide_ hs56
      clear he2 he3 hcc hset hk6 hb6 hst6 how6 hs56
      go_upto_region 14 with fail
      rw [← hw6]
      clear hw6 k0 k1 k2 k3 k4 k5 k6 z6 l6
      go_wp2_with fail
      refine (HRg.out w6 HB6.out).mono ?_
      rintro e w7 ⟨a7, c7, rfl, HI7, HB7⟩
      have HS7 := hide_ (HS6.out.later HB7.out)
      have HO7 := hide_ (HO6.out.later HB7.out)
      have HK7 := hide_ (HK6.out.later HB7.out)
      have HB7' := hide_ (below_to HB6.out HB7.out)
      have hs7 : w5.heap.size ≤ w7.heap.size := by have h1 := HB7.out.size; have h2 := HS56.out; omega
      clear o0 o1 o2 o3 o4 o5 o6
      go_wp2_with fail
      refine (go_any w7 w2.heap.size F g _ _ _ R a7 R.T.length c7 HS7 HB7'.out.size).mono ?_
      rintro e w8 (⟨hb, -⟩ | ⟨-, hb, -⟩ | ⟨l, y', hfs, -, rfl, hto⟩)
      · simp at hb
      · have := (frB_is HOk.out).2.2
        rw [hb] at this
        cases this
      obtain ⟨rfl, rfl⟩ : l = Q.map (·.1) ∧ y' = y := by
        rw [HLa.out] at hfs
        have h1 := List.append_inj' hfs rfl
        exact ⟨h1.1.symm, by have := h1.2; simp at this; exact this.symm⟩
      obtain ⟨F8, hS8, hU8, hF8⟩ := hto
      have how8 := HO7.out.updO hU8 HT5.out.ap
      have hx8 : XSt w2 w8 F8 g (Q.map (·.1)) (hdf R y'.T) ((n : Int) + 1) (n : Int) (.slice (some ⟨gO, 0, none⟩) (Q.length + 1) capO) (Q ++ [(y', .slice a9 y'.T.length c9)]) bx (.slice a9 y'.T.length c9) :=
        ⟨hS8, how8, fun k hk hF => by
          rcases hF8 k hF with h1 | h1
          · exact HT5.out.ap k hk h1
          · have := HOl.out k hk; omega, HK7.out.upd hU8 HNf.out, fun hF => by
          rcases hF8 _ hF with h1 | h1
          · exact HNf.out h1
          · omega, HNv.out, HB7'.out.trans (hU8.below w2.heap.size HB7'.out.size (fun k hk => (HS7.out.lt hk).1))⟩
      obtain ⟨a6, c6, h6, hf6⟩ := (how8.tb (y', .slice a9 y'.T.length c9) (List.mem_append_right _ (List.mem_singleton.2 rfl))).fra
      injection h6 with h61 _ h63
      subst h61 h63
      have HX8 := hide_ hx8
      have HF6 : Hid (FrA w8 (hdf R y'.T) a9 c9) := hide_ hf6
      clear hfs hS8 hU8 hF8 how8 hx8 hf6 hs7
      go_wp2_with (go_at_call 10; refine (HNum.out _ _).mono ?_; rintro e w' ⟨rfl, rfl⟩)
      go_meet
      case rel => exact ⟨hdf R y'.T, F8, a9, c9, _, rfl, HYs.out, HX8, HF6⟩
  case rest =>
  obtain ⟨X, F', ax, cx, wd, rfl, hXl, HX, HFx⟩ := hcut
  have hbxl : w2.heap.size ≤ bx := by have := HT.out.bl.size; omega
  clear HT HT5 K5 HI5 HI4 HB4 HFl HOl HI5l hs34 hbx5
  have k0 := HX.out.kx.cell 0; have k1 := HX.out.kx.cell 1; have k2 := HX.out.kx.cell 2; have k3 := HX.out.kx.cell 3; have k4 := HX.out.kx.cell 4; have k5 := HX.out.kx.cell 5; have k6 := HX.out.kx.cell 6
  simp [frc] at k0 k1 k2 k3 k4 k5 k6
  go_wp2_with fail
  refine (own_any X ax cx wd HFx (by omega)).mono ?_
  rintro e w9 ⟨a5, c5, rfl, HI9, HB9⟩
  have hx9 := HX.out.later HB9.out
  clear k0 k1 k2 k3 k4 k5 k6
  have k0 := hx9.kx.cell 0; have k1 := hx9.kx.cell 1; have k2 := hx9.kx.cell 2; have k3 := hx9.kx.cell 3; have k4 := hx9.kx.cell 4; have k5 := hx9.kx.cell 5; have k6 := hx9.kx.cell 6
  have z0 := hx9.kx.frozen 0; have z1 := hx9.kx.frozen 1; have z2 := hx9.kx.frozen 2; have z3 := hx9.kx.frozen 3; have z4 := hx9.kx.frozen 4; have z5 := hx9.kx.frozen 5; have z6 := hx9.kx.frozen 6
  simp [frc] at k0 k1 k2 k3 k4 k5 k6
  have hs7 := upd7 w9 bx 0 X (.slice a5 X.T.length c5)
  have hd9 : w2.heap.size ≤ wd.heap.size := HX.out.bl.size
  have hxi : XIn w2 (set7 w9 bx 0 X (.slice a5 X.T.length c5)) F' g (Q.map (·.1)) X ((n : Int) + 1) (n : Int) (.slice (some ⟨gO, 0, none⟩) (Q.length + 1) capO) (Q ++ [(y, .slice a9 y.T.length c9)]) bx (.slice a5 X.T.length c5) :=
    ⟨⟨hx9.st.upd hs7 (fun k hk e => by subst e; exact hx9.nx hk), hx9.ow.updO hs7 (fun k hk e => by subst e; exact hx9.nv hk), hx9.ap, hx9.kx.set7 X _, hx9.nx, hx9.nv, hx9.bl.trans (hs7.below w2.heap.size hx9.bl.size (fun k hk => by have := hbxl; omega))⟩,
      IOwn.upd (own_base HI9.out hd9) hs7 (fun k hk e => by subst e; exact HI9.out.notF hx9.kx (by decide) hk),
      fun k hk => ⟨fun e => by have h1 := (HI9.out.lies hk).1; have h2 := (HX.out.st.lt e).2; omega, fun e => by have h1 := (HI9.out.lies hk).1; have h2 := (HX.out.ow.lies e).2; omega⟩⟩
  obtain ⟨w10, hw10⟩ : ∃ w10, w10 = set7 w9 bx 0 X (.slice a5 X.T.length c5) := ⟨_, rfl⟩
  rw [← hw10] at hxi
  have HXI := hide_ hxi
  clear hs7 hxi HFx HI9 HB9 hx9 hd9 HX
  go_upto_region 17 with fail
  rw [s7, ← hw10]
  clear hw10
  clear k0 k1 k2 k3 k4 k5 k6
  clear z0 z1 z2 z3 z4 z5 z6
  go_wp2_with fail
  go_loopw [15] (fun x15 wr => ∃ (i : Nat) (X : Fr) (F' : Nat → Prop) (vx : Value), i ≤ M.length ∧ i ≤ 100 ∧ x15 = .int .i64 (i : Int) ∧ Hid (X.T.length ≤ 300 + i) ∧ Hid (XIn w2 wr F' g (Q.map (·.1)) X ((n : Int) + 1) (n : Int) (.slice (some ⟨gO, 0, none⟩) (Q.length + 1) capO) (Q ++ [(y, .slice a9 y.T.length c9)]) bx vx)) (fun x15 _ => M.length - (intOf x15).toNat)
  case atStart => exact ⟨0, X, F', _, Nat.zero_le _, by decide, rfl, hide_ (by omega), HXI⟩
  case round =>
    clear HXI hXl
    obtain ⟨i, X, F', vx, hiM, hi1, rfl, HXl, HX⟩ := hrel
    generalize wr = wq at *
    obtain ⟨ax, cx, rfl⟩ := HX.out.ix.slice
    by_cases hgo : i < M.length ∧ i < 100
    · obtain ⟨hlt, hlt1⟩ := hgo
      have hd1 : decide ((i : Int) < (M.length : Int)) = true := decide_eq_true (by omega)
      have hd2 : decide ((i : Int) < 100) = true := decide_eq_true (by omega)
      have hlt' : (i : Int) < (M.length : Int) := by omega
      obtain ⟨bm, om, rfl, -, hcm⟩ := (HM2.out.later HX.out.xs.bl).open (show 0 < M.length by omega)
      have hcx := hcm i hlt
      obtain ⟨x, hx⟩ : ∃ x, M.getD i 0 = x := ⟨_, rfl⟩
      rw [hx] at hcx
      have HRe := hide_ (rest_any x 4611686018427387904 wq (by decide) (by decide))
      have hri := restP_in (n := x) (m := 4611686018427387904) (by decide)
      obtain ⟨z, hz⟩ : ∃ z, restP x 4611686018427387904 = z := ⟨_, rfl⟩
      rw [hz] at HRe hri
      have HPz : Hid (posB z = true) := hide_ (posB_of (by omega) (by omega))
      have k6 := HX.out.xs.kx.cell 6
      simp [frc] at k6
      have HMk := hide_ (mark_any wq.drew w2.heap.size F' g (Q.map (·.1) ++ [X]) ((n : Int) + 1) (n : Int) z (hide_ (HX.out.xs.st.later ((Below.refl wq.heap.size wq).drew))) HX.out.xs.bl.size)
      have hXb := HXl.out
      have hwl := i64w ((X.T.length : Int) + 1) (by omega)
      have hwk := i64w (X.T.length : Int) (by omega)
      have hwi := i64w ((i : Int) + 1) (by omega)
      have HS1 : Hid ((fun w' => w'.cell? ⟨bx, 6, none⟩ = some (.slice ax X.T.length cx)) wq.drew) := hide_ (HX.out.xs.kx.cell 6)
      clear hcm hx hri hz
      go_wp2_with (go_at_call 13; refine HRe.out.mono ?_; rintro e w' ⟨rfl, rfl⟩)
      refine wp_region_last 13 (fun w' => w'.cell? ⟨bx, 6, none⟩ = some (.slice ax X.T.length cx)) (by kernel_rfl) (HS1.out) (fun hHeld => ?_)
      refine wpAnyF_take [13, 5, 3, 2] (by kernel_rfl) (i := 0) (v := ?vf1) rfl (by kernel_rfl) (by kernel_rfl) (by kernel_rfl) (fun _ _ _ h => h) (Or.inl ⟨by kernel_rfl, ?hyf1⟩) hHeld ?restf1
      case hyf1 => intro w' hSw; (try dsimp only at hSw); go_simp; try with_reducible rfl
      simp only [Act.put]
      try dsimp only
      refine wpAnyF_take [13, 5, 3, 2] (by kernel_rfl) (i := 1) (v := ?vf2) rfl (by kernel_rfl) (by kernel_rfl) (by kernel_rfl) (fun _ _ _ h => h) (Or.inl ⟨by kernel_rfl, ?hyf2⟩) hHeld ?restf2
      case hyf2 => intro w' hSw; (try dsimp only at hSw); go_simp; try with_reducible rfl
      simp only [Act.put]
      try dsimp only
      refine wpAnyF_ready (rs := [2]) (by kernel_rfl) (by simp) ?_
      refine AllReadyF.cons rfl (fun K hK => ?_) AllReadyF.nil
      go_simp
      refine HMk.out.mono ?_
      rintro e w4' hto
      have hmk : e = .returned (.int .i64 0) ∧ StkTo wq.drew w2.heap.size F' w4' g (Q.map (·.1) ++ [hdf X (X.T ++ [z])]) ((n : Int) + 1) (n : Int) := by
        rcases hto with ⟨hb, -⟩ | ⟨-, hb, -⟩ | ⟨-, -, hb, -⟩ | ⟨l, y', hfs, -, -, he, hto⟩
        · simp at hb
        · rw [HPz.out] at hb; cases hb
        · rw [lastT_app] at hb; omega
        · have h1 := List.append_inj' hfs rfl
          have h2 : X = y' := by have := h1.2; simp at this; exact this
          rw [← h1.1, ← h2] at hto
          exact ⟨he, hto⟩
      obtain ⟨rfl, F4, hS4, hU4, hF4⟩ := hmk
      have hXd := HX.out.later ((Below.refl wq.heap.size wq).drew)
      have hK4 := hXd.xs.kx.upd hU4 hXd.xs.nx
      have hI4 := hXd.ix.upd hU4 (fun k hk => (hXd.tn k hk).1)
      have hO4 := hXd.xs.ow.updO hU4 hXd.xs.ap
      have hF4x : ∀ k, F4 k → F' k ∨ wq.heap.size ≤ k := hF4
      have hap4 : ∀ k, OwB (.slice (some ⟨gO, 0, none⟩) (Q.length + 1) capO) (Q ++ [(y, .slice a9 y.T.length c9)]) k → ¬ F4 k := fun k hk hF => by
        rcases hF4x k hF with h1 | h1
        · exact HX.out.xs.ap k hk h1
        · have := (HX.out.xs.ow.lies hk).2; omega
      have hnx4 : ¬ F4 bx := fun hF => by
        rcases hF4x _ hF with h1 | h1
        · exact HX.out.xs.nx h1
        · have := HX.out.xs.kx.lt; omega
      have htn4 : ∀ k, (Value.slice ax X.T.length cx).ownBlock = some k → ¬ F4 k ∧ ¬ OwB (.slice (some ⟨gO, 0, none⟩) (Q.length + 1) capO) (Q ++ [(y, .slice a9 y.T.length c9)]) k := fun k hk => ⟨fun hF => by
        rcases hF4x k hF with h1 | h1
        · exact (HX.out.tn k hk).1 h1
        · have := (HX.out.ix.lies hk).2; omega, (HX.out.tn k hk).2⟩
      have hB4 := hXd.xs.bl.trans (hU4.below w2.heap.size hXd.xs.bl.size (fun k hk => (hXd.xs.st.lt hk).1))
      have HS4 := hide_ hS4
      have HK4 := hide_ hK4
      have HI4 := hide_ hI4
      have HO4 := hide_ hO4
      have HAp4 := hide_ hap4
      have HNx4 := hide_ hnx4
      have HTn4 := hide_ htn4
      have HB4 := hide_ hB4
      have HNv := hide_ HX.out.xs.nv
      have HSl : Hid (Calls Try.prog 20 #[.pointer (some ⟨g, 0, none⟩)] w4' fun e w' => e = .returned (.int .i64 ((X.T.length : Int) + 1)) ∧ Below w4'.heap.size w4' w') := hide_ (by
        have h := slots_any w4' w2.heap.size F4 g (Q.map (·.1) ++ [hdf X (X.T ++ [z])]) _ _ HS4
        rw [lastT_app] at h
        have e2 : ((hdf X (X.T ++ [z])).T.length : Int) = (X.T.length : Int) + 1 := by simp [hdf]
        rw [e2] at h
        exact h)
      have HCl : Hid (∀ w', Below w4'.heap.size w4' w' → (fun w' => w'.cell? ⟨bx, 6, none⟩ = some (.slice ax X.T.length cx)) w') := hide_ (fun w' hb => (HK4.out.later hb).cell 6)
      have HCl0 : Hid ((fun w' => w'.cell? ⟨bx, 6, none⟩ = some (.slice ax X.T.length cx)) w4') := hide_ (HCl.out w4' (Below.refl _ _))
      clear hto hS4 hU4 hF4 hXd hK4 hI4 hO4 hF4x hap4 hnx4 htn4 hB4
      dsimp only
      refine hK.out _ _ (HCl0.out) (fun hHeld => ?_)
      clear hK K
      refine wpAnyF_takeC [13, 5] (by kernel_rfl) (i := 3) (v := .int .i64 0) rfl (by kernel_rfl) (by kernel_rfl) (by kernel_rfl) (fun _ _ _ h => h) ⟨by kernel_rfl, _, #[.int .i64 0], fun w' hSw => ⟨by (try dsimp only at hSw); go_simp; try rfl, HNum.out 0 w'⟩⟩ hHeld ?_
      simp only [Act.put]
      try dsimp only
      refine wpAnyF_take [13, 5] (by kernel_rfl) (i := 4) (v := ?vf3) rfl (by kernel_rfl) (by kernel_rfl) (by kernel_rfl) (fun _ _ _ h => h) (Or.inl ⟨by kernel_rfl, ?hyf3⟩) hHeld ?restf3
      case hyf3 => intro w' hSw; (try dsimp only at hSw); go_simp; try with_reducible rfl
      simp only [Act.put]
      try dsimp only
      refine wpAnyF_take [13] (by kernel_rfl) (i := 5) (v := ?vf4) rfl (by kernel_rfl) (by kernel_rfl) (by kernel_rfl) (fun _ _ _ h => h) (Or.inl ⟨by kernel_rfl, ?hyf4⟩) hHeld ?restf4
      case hyf4 => intro w' hSw; (try dsimp only at hSw); go_simp; try with_reducible rfl
      simp only [Act.put]
      try dsimp only
      refine wpAnyF_take [13, 12, 7] (by kernel_rfl) (i := 6) (v := ?vf5) rfl (by kernel_rfl) (by kernel_rfl) (by kernel_rfl) (fun _ _ _ h => h) (Or.inl ⟨by kernel_rfl, ?hyf5⟩) hHeld ?restf5
      case hyf5 => intro w' hSw; (try dsimp only at hSw); go_simp; try with_reducible rfl
      simp only [Act.put]
      try dsimp only
      refine wpAnyF_take [13, 12, 11, 10, 9] (by kernel_rfl) (i := 8) (v := ?vf6) rfl (by kernel_rfl) (by kernel_rfl) (by kernel_rfl) (fun _ _ _ h => h) (Or.inl ⟨by kernel_rfl, ?hyf6⟩) hHeld ?restf6
      case hyf6 => intro w' hSw; (try dsimp only at hSw); go_simp; try with_reducible rfl
      simp only [Act.put]
      try dsimp only
      refine wpAnyF_take [13, 12, 11, 10] (by kernel_rfl) (i := 9) (v := ?vf7) rfl (by kernel_rfl) (by kernel_rfl) (by kernel_rfl) (fun _ _ _ h => h) (Or.inl ⟨by kernel_rfl, ?hyf7⟩) hHeld ?restf7
      case hyf7 => intro w' hSw; (try dsimp only at hSw); go_simp; try with_reducible rfl
      simp only [Act.put]
      try dsimp only
      refine wpAnyF_take [13, 12, 11] (by kernel_rfl) (i := 10) (v := ?vf8) rfl (by kernel_rfl) (by kernel_rfl) (by kernel_rfl) (fun _ _ _ h => h) (Or.inl ⟨by kernel_rfl, ?hyf8⟩) hHeld ?restf8
      case hyf8 => intro w' hSw; (try dsimp only at hSw); go_simp; try with_reducible rfl
      simp only [Act.put]
      try dsimp only
      refine wpAnyF_take [13, 12] (by kernel_rfl) (i := 11) (v := ?vf9) rfl (by kernel_rfl) (by kernel_rfl) (by kernel_rfl) (fun _ _ _ h => h) (Or.inl ⟨by kernel_rfl, ?hyf9⟩) hHeld ?restf9
      case hyf9 => intro w' hSw; (try dsimp only at hSw); go_simp; try with_reducible rfl
      simp only [Act.put]
      try dsimp only
      refine wpAnyF_ready (rs := [7]) (by kernel_rfl) (by simp) ?_
      refine AllReadyF.cons rfl (fun K hK => ?_) AllReadyF.nil
      go_simp
      refine HSl.out.mono ?_
      rintro e w5' ⟨rfl, hB5⟩
      have HB5 := hide_ hB5
      clear hB5
      dsimp only
      refine hK.out _ _ (HCl.out _ HB5.out) (fun hHeld => ?_)
      clear hK K
      refine wpAnyF_take [13] (by kernel_rfl) (i := 12) (v := ?vf10) rfl (by kernel_rfl) (by kernel_rfl) (by kernel_rfl) (fun _ _ _ h => h) (Or.inl ⟨by kernel_rfl, ?hyf10⟩) hHeld ?restf10
      case hyf10 => intro w' hSw; (try dsimp only at hSw); go_simp; try with_reducible rfl
      simp only [Act.put]
      try dsimp only
      refine wpAnyF_ready (rs := [13]) (by kernel_rfl) (by simp) ?_
      refine AllReadyF.last rfl (fun K hK => ?_)
      go_simp
      refine hK.out _ _ ?_
      clear hK K
      refine wpAnyF_done (by kernel_rfl) ?_ _
      have hS5 := HS4.out.later HB5.out
      have hK5 := HK4.out.later HB5.out
      have hI5 := HI4.out.later HB5.out
      have hO5 := HO4.out.later HB5.out
      have hB5 := below_to HB4.out HB5.out
      obtain ⟨gT, capT, w6', hr, ho, hu, hgT⟩ := hI5.push z (by omega) hB5.size
      have hS6 := hS5.upd hu (fun k hk e => (HTn4.out k e).1 hk)
      have hK6 := hK5.upd hu (fun e => hI5.notF hK5 (by decide) e)
      have hO6 := hO5.updO hu (fun k hk e => (HTn4.out k e).2 hk)
      have hB6 := hB5.trans (hu.below w2.heap.size hB5.size (fun k hk => (hI5.lies hk).1))
      have hset := (Upd.refl (fun k => k = bx) w6').set ⟨bx, 6, none⟩ (.slice (some ⟨gT, 0, none⟩) (X.T.length + 1) capT) (.inl rfl)
      have hS7 := hS6.upd hset (fun k hk e => by subst e; exact HNx4.out hk)
      have hK7 := hK6.set 6 (.slice (some ⟨gT, 0, none⟩) (X.T.length + 1) capT)
      have hI7 := IOwn.upd ho hset (fun k hk e => by subst e; exact IOwn.notF ho hK6 (by decide) hk)
      have hO7 := hO6.updO hset (fun k hk e => by subst e; exact HNv.out hk)
      have hB7 := hB6.trans (hset.below w2.heap.size hB6.size (fun k hk => by omega))
      have htn7 : ∀ k, (Value.slice (some ⟨gT, 0, none⟩) (X.T.length + 1) capT).ownBlock = some k → ¬ F4 k ∧ ¬ OwB (.slice (some ⟨gO, 0, none⟩) (Q.length + 1) capO) (Q ++ [(y, .slice a9 y.T.length c9)]) k := fun k hk => by
        have hk' : gT = k := own_is hk
        subst hk'
        rcases hgT with h1 | h1
        · exact HTn4.out _ h1
        · exact ⟨fun e => by have := (hS5.lt e).2; omega, fun e => by have := (hO5.lies e).2; omega⟩
      have HAp := hide_ hr
      have k6' := hK5.cell 6; have z6' := hK6.frozen 6; have k6'' := hK6.cell 6
      simp [frc] at k6' k6''
      obtain ⟨w7', hw7⟩ : ∃ w7', w7' = w6'.setCell ⟨bx, 6, none⟩ (.slice (some ⟨gT, 0, none⟩) (X.T.length + 1) capT) := ⟨_, rfl⟩
      rw [← hw7] at hS7 hK7 hI7 hO7 hB7
      have k7 := hK7.cell 6
      simp [frc] at k7
      have HS7 := hide_ hS7
      have HX7 : Hid (XIn w2 w7' F4 g (Q.map (·.1)) (hdf X (X.T ++ [z])) ((n : Int) + 1) (n : Int) (.slice (some ⟨gO, 0, none⟩) (Q.length + 1) capO) (Q ++ [(y, .slice a9 y.T.length c9)]) bx (.slice (some ⟨gT, 0, none⟩) (X.T.length + 1) capT)) := hide_ ⟨⟨hS7, hO7, HAp4.out, hK7, HNx4.out, HNv.out, hB7⟩, hI7, htn7⟩
      clear hS5 hK5 hI5 hO5 hB5 hr ho hu hgT hS6 hK6 hO6 hB6 hset hS7 hK7 hI7 hO7 hB7 htn7 k6
      go_wp2_with (first | (at_builtin; refine wpList_append_run rfl (.tmp 116) (.tmp 118) 37 37 rfl rfl rfl HAp.out ?_) | fail)
      rw [← hw7]
      clear hw7
      refine (slot_any w7' w2.heap.size F4 g (Q.map (·.1) ++ [hdf X (X.T ++ [z])]) ((n : Int) + 1) (n : Int) (X.T.length : Int) HS7).mono ?_
      rintro e w8' (⟨hb, -⟩ | ⟨-, hb, -⟩ | ⟨-, -, -, rfl, hB8⟩)
      · simp at hb
      · exfalso
        apply hb
        rw [lastT_app]
        simp [hdf]
        omega
      have hgd : (lastT (Q.map (·.1) ++ [hdf X (X.T ++ [z])])).getD (X.T.length : Int).toNat 0 = z := by
        rw [lastT_app, Int.toNat_natCast]
        simp [hdf, List.getD]
      rw [hgd]
      have HX8 := hide_ (HX7.out.later hB8)
      have hzz : (z != z) = false := by simp
      clear hgd hB8 k6' z6' k6'' k7
      go_wp2_with (go_at_call 10; refine (HNum.out _ _).mono ?_; rintro e w' ⟨rfl, rfl⟩)
      go_roundw
      case rel => exact ⟨i + 1, hdf X (X.T ++ [z]), F4, _, by omega, by omega, by go_num, hide_ (by have := HXl.out; simp [hdf]; omega), HX8⟩
      case measure => simp [intOf]; omega
    · go_upto_region 18 with fail
      go_cut [93] from 86 to 93 (fun x93 wc => x93 = .bool false ∧ wq = wc)
      case first =>
        by_cases h1 : i < M.length
        · have hd1 : decide ((i : Int) < (M.length : Int)) = true := decide_eq_true (by omega)
          have hd2 : decide ((i : Int) < 100) = false := decide_eq_false (by omega)
          clear hgo
          go_wp2_with fail
          go_meet
          case rel => exact ⟨rfl, rfl⟩
        · have hd1 : decide ((i : Int) < (M.length : Int)) = false := decide_eq_false (by omega)
          clear hgo
          go_wp2_with fail
          go_meet
          case rel => exact ⟨rfl, rfl⟩
      case rest =>
      obtain ⟨rfl, rfl⟩ := hcut
      clear hgo
      have hxq : (Q ++ [(y, Value.slice a9 y.T.length c9)])[Q.length]? = some (y, .slice a9 y.T.length c9) := by simp
      have hlq : 0 < (Q ++ [(y, Value.slice a9 y.T.length c9)]).length := by simp
      obtain ⟨c0, c1, c2, c3, c4, c5, c6⟩ := HX.out.xs.ow.at7 hxq
      have y0 := HX.out.xs.ow.froz hlq (Q.length * 7); have y1 := HX.out.xs.ow.froz hlq (Q.length * 7 + 1); have y2 := HX.out.xs.ow.froz hlq (Q.length * 7 + 2); have y3 := HX.out.xs.ow.froz hlq (Q.length * 7 + 3); have y4 := HX.out.xs.ow.froz hlq (Q.length * 7 + 4); have y5 := HX.out.xs.ow.froz hlq (Q.length * 7 + 5); have y6 := HX.out.xs.ow.froz hlq (Q.length * 7 + 6)
      have k0 := HX.out.xs.kx.cell 0; have k1 := HX.out.xs.kx.cell 1; have k2 := HX.out.xs.kx.cell 2; have k3 := HX.out.xs.kx.cell 3; have k4 := HX.out.xs.kx.cell 4; have k5 := HX.out.xs.kx.cell 5; have k6 := HX.out.xs.kx.cell 6
      simp [frc] at k0 k1 k2 k3 k4 k5 k6
      have hqi := i64w (Q.length : Int) (by omega)
      have hqlt : (Q.length : Int) < (Q.length : Int) + 1 := by omega
      have hs7 := upd7 wq gO (Q.length * 7) X (.slice ax X.T.length cx)
      have hO7 := HX.out.xs.ow.set hxq X (.slice ax X.T.length cx) HX.out.ix (fun j' q hj hq k h1 h2 => (HX.out.tn k h1).2 (.inr ⟨q, List.mem_of_getElem? hq, h2⟩))
      rw [set_last] at hO7
      have hS7 := HX.out.xs.st.upd hs7 (fun k hk e => by subst e; exact HX.out.xs.ap _ (.inl rfl) hk)
      have hB7 := HX.out.xs.bl.trans (hs7.below w2.heap.size HX.out.xs.bl.size (fun k hk => by subst hk; exact (HX.out.xs.ow.row.lt _ rfl).1))
      have hap : ∀ k, OwB (.slice (some ⟨gO, 0, none⟩) (Q.length + 1) capO) (Q ++ [(X, .slice ax X.T.length cx)]) k → ¬ F' k := fun k hk => by
        rcases hk with hk | ⟨q, hq, hk⟩
        · exact HX.out.xs.ap k (.inl hk)
        · rcases List.mem_append.1 hq with hq | hq
          · exact HX.out.xs.ap k (.inr ⟨q, List.mem_append_left _ hq, hk⟩)
          · simp only [List.mem_singleton] at hq
            subst hq
            exact (HX.out.tn k hk).1
      have hfs : Q.map (·.1) ++ [X] = (Q ++ [(X, Value.slice ax X.T.length cx)]).map (·.1) := by rw [List.map_append]; rfl
      rw [hfs] at hS7
      have hPl : (Q ++ [(X, Value.slice ax X.T.length cx)]).length = Q.length + 1 := by simp
      obtain ⟨P', hP'⟩ : ∃ P', Q ++ [(X, Value.slice ax X.T.length cx)] = P' := ⟨_, rfl⟩
      rw [hP'] at hO7 hS7 hap hPl
      obtain ⟨w10', hw10⟩ : ∃ w10', w10' = set7 wq gO (Q.length * 7) X (.slice ax X.T.length cx) := ⟨_, rfl⟩
      rw [← hw10] at hO7 hS7 hB7
      have HO7 := hide_ hO7
      have HS7 : Hid (Stk w10' w2.heap.size F' g ((P'.map (·.1)).take (Q.length + 1)) ((n : Int) + 1) (n : Int)) := hide_ (by rw [← hPl, ← List.length_map (f := (·.1)), List.take_length]; exact hS7)
      have HB7 := hide_ hB7
      have HAp := hide_ hap
      have HPl := hide_ hPl
      clear hxq hlq hs7 hO7 hS7 hB7 hap hfs hPl hP'
      go_upto_region 28 with fail
      rw [s7o, ← hw10]
      clear hw10 c0 c1 c2 c3 c4 c5 c6 y0 y1 y2 y3 y4 y5 y6 HX HXl
      clear k0 k1 k2 k3 k4 k5 k6
      go_wp2_with fail
      go_loopw [19] (fun x19 wr => ∃ (j : Nat), j ≤ Q.length + 1 ∧ x19 = .int .i64 ((j : Int) - 1) ∧ Hid (Stk wr w2.heap.size F' g ((P'.map (·.1)).take j) ((n : Int) + 1) (n : Int)) ∧ Hid (FOwn wr w2.heap.size (.slice (some ⟨gO, 0, none⟩) (Q.length + 1) capO) P') ∧ Hid (Below w2.heap.size w2 wr)) (fun x19 _ => (intOf x19 + 1).toNat)
      case atStart => exact ⟨Q.length + 1, Nat.le_refl _, by congr 1; omega, HS7, HO7, HB7⟩
      case round =>
        clear HS7 HO7 HB7
        obtain ⟨jj, hjj, rfl, HS, HO, HB⟩ := hrel
        generalize wr = wk at *
        cases jj with
        | zero =>
          have e : (((0 : Nat) : Int) - 1) = -1 := rfl
          rw [e]
          have HPop := hide_ (pop_any wk w2.heap.size F' g [] ((n : Int) + 1) (n : Int) (hide_ (by have h := HS.out; rw [List.take_zero] at h; exact h)) HB.out.size)
          go_wp2_with fail
          refine HPop.out.mono ?_
          rintro e w5' (⟨-, rfl, HS5, HU5⟩ | ⟨l, f', a2, c2, hfs, -⟩)
          rotate_left
          · simp at hfs
          have HB5 := hide_ (HB.out.trans (HU5.out.below w2.heap.size HB.out.size (fun k hk => (HS.out.lt hk).1)))
          obtain ⟨w6', hw6⟩ : ∃ w6', w6' = w5'.alloc (.cells #[.int .i64 0, .int .i64 0, .int .i64 0, .int .i64 0, .int .i64 0, .int .i64 0, .slice none 0 0] 39) := ⟨_, rfl⟩
          have hB6 : Below w5'.heap.size w5' w6' := by rw [hw6]; exact below1 _ _
          have HB6 := hide_ (below_to HB2.out (below_to HB5.out hB6))
          clear hB6
          go_upto_region 35 with fail
          rw [← hw6]
          clear hw6
          go_wp2_with (go_at_call 10; refine (HNum.out _ _).mono ?_; rintro e w' ⟨rfl, rfl⟩)
          go_ret
          exact ⟨rfl, HB6.out⟩
        | succ j =>
          have e : (((j + 1 : Nat) : Int) - 1) = (j : Int) := by omega
          rw [e]
          clear e
          have hjP : j < P'.length := by have := HPl.out; omega
          have htk : (P'.map (·.1)).take (j + 1) = (P'.map (·.1)).take j ++ [(P'[j]'hjP).1] := by
            rw [List.take_succ_eq_append_getElem (by simpa using hjP)]
            simp
          have hxj : P'[j]? = some (P'[j]'hjP) := List.getElem?_eq_getElem hjP
          obtain ⟨p, hp⟩ : ∃ p, P'[j]'hjP = p := ⟨_, rfl⟩
          rw [hp] at htk hxj
          obtain ⟨f'', v8⟩ := p
          have HXj := hide_ hxj
          have HPop := hide_ (pop_any wk w2.heap.size F' g _ ((n : Int) + 1) (n : Int) HS HB.out.size)
          have hjl : (j : Int) < (Q.length : Int) + 1 := by omega
          have hj0 : ¬ ((j : Int) < 0) := by omega
          have HTk := hide_ htk
          clear hp hxj htk
          go_wp2_with fail
          refine HPop.out.mono ?_
          rintro e w5' (⟨hb, -, -, -⟩ | ⟨l, f', a2, c2, hfs, rfl, HI5, HS5, HU5⟩)
          · exfalso
            rw [HTk.out] at hb
            simp at hb
          obtain ⟨rfl, rfl⟩ : l = (P'.map (·.1)).take j ∧ f' = f'' := by
            rw [HTk.out] at hfs
            have h1 := List.append_inj' hfs rfl
            exact ⟨h1.1.symm, by have := h1.2; simp at this; exact this.symm⟩
          have hO5 := HO.out.updO HU5.out HAp.out
          have hB5 := HB.out.trans (HU5.out.below w2.heap.size HB.out.size (fun k hk => (HS.out.lt hk).1))
          obtain ⟨w6', hw6⟩ : ∃ w6', w6' = w5'.alloc (.cells #[.int .i64 f'.r, .int .i64 f'.a, .int .i64 f'.b, .int .i64 f'.e, .int .i64 f'.n, .int .i64 f'.x, .slice a2 f'.T.length c2] 39) := ⟨_, rfl⟩
          have hB6 : Below w5'.heap.size w5' w6' := by rw [hw6]; exact below1 _ _
          have kb : Blk w6' w5'.heap.size 39 (frc (f', .slice a2 f'.T.length c2)) := by rw [hw6]; exact Blk.newA w5' _ _
          have HKb := hide_ kb
          have HO6 := hide_ (hO5.later hB6)
          have HS6 := hide_ (HS5.out.later hB6)
          have HB6 := hide_ (below_to hB5 hB6)
          have HI6 := hide_ (HI5.out.later hB6)
          obtain ⟨a8, c8, h8, hf8⟩ := (HO6.out.tb (f', v8) (List.mem_of_getElem? HXj.out)).fra
          have h8' : v8 = .slice a8 f'.T.length c8 := h8
          subst h8'
          have HFa8 := hide_ hf8
          obtain ⟨a7, c7, h7, hf7⟩ := HI6.out.fra
          injection h7 with h71 _ h73
          subst h71 h73
          have HFa7 := hide_ hf7
          have HCl : Hid (∀ w', Below w6'.heap.size w6' w' → (fun w' => w'.cell? ⟨w5'.heap.size, 0, none⟩ = some (.int .i64 f'.r) ∧ w'.cell? ⟨w5'.heap.size, 1, none⟩ = some (.int .i64 f'.a) ∧ w'.cell? ⟨w5'.heap.size, 2, none⟩ = some (.int .i64 f'.b) ∧ w'.cell? ⟨w5'.heap.size, 3, none⟩ = some (.int .i64 f'.e) ∧ w'.cell? ⟨w5'.heap.size, 4, none⟩ = some (.int .i64 f'.n) ∧ w'.cell? ⟨w5'.heap.size, 5, none⟩ = some (.int .i64 f'.x) ∧ w'.cell? ⟨w5'.heap.size, 6, none⟩ = some (.slice a2 f'.T.length c2) ∧ w'.cell? ⟨gO, j * 7, none⟩ = some (.int .i64 f'.r) ∧ w'.cell? ⟨gO, j * 7 + 1, none⟩ = some (.int .i64 f'.a) ∧ w'.cell? ⟨gO, j * 7 + 2, none⟩ = some (.int .i64 f'.b) ∧ w'.cell? ⟨gO, j * 7 + 3, none⟩ = some (.int .i64 f'.e) ∧ w'.cell? ⟨gO, j * 7 + 4, none⟩ = some (.int .i64 f'.n) ∧ w'.cell? ⟨gO, j * 7 + 5, none⟩ = some (.int .i64 f'.x) ∧ w'.cell? ⟨gO, j * 7 + 6, none⟩ = some (.slice a8 f'.T.length c8)) w') := hide_ (fun w' hb => by
            have k := HKb.out.later hb
            obtain ⟨d0, d1, d2, d3, d4, d5, d6⟩ := (HO6.out.later hb).at7 HXj.out
            exact ⟨k.cell 0, k.cell 1, k.cell 2, k.cell 3, k.cell 4, k.cell 5, k.cell 6, d0, d1, d2, d3, d4, d5, d6⟩)
          have HSame := hide_ (same_yes f' a2 a8 c2 c8 w6'.drew (hide_ ⟨HFa7.out.1.drew, HFa7.out.2⟩) (hide_ ⟨HFa8.out.1.drew, HFa8.out.2⟩))
          have HLen : Hid (∀ w', Below w6'.heap.size w6' w' → Calls Try.prog 11 #[.pointer (some ⟨g, 0, none⟩)] w' fun e w'' => e = .returned (.int .i64 (j : Int)) ∧ w' = w'') := hide_ (fun w' hb => lenS (HS6.out.later hb) (by rw [List.length_take, List.length_map]; omega))
          have hjj2 : ((j : Int) != (j : Int)) = false := by simp
          have hjw := i64w ((j : Int) - 1) (by omega)
          clear hfs hO5 hB5 hB6 kb h8 hf8 hf7 HS HO HPop
          go_upto_region 32 with fail
          rw [← hw6]
          clear hw6
          refine wp_region_last 17 (fun w' => w'.cell? ⟨w5'.heap.size, 0, none⟩ = some (.int .i64 f'.r) ∧ w'.cell? ⟨w5'.heap.size, 1, none⟩ = some (.int .i64 f'.a) ∧ w'.cell? ⟨w5'.heap.size, 2, none⟩ = some (.int .i64 f'.b) ∧ w'.cell? ⟨w5'.heap.size, 3, none⟩ = some (.int .i64 f'.e) ∧ w'.cell? ⟨w5'.heap.size, 4, none⟩ = some (.int .i64 f'.n) ∧ w'.cell? ⟨w5'.heap.size, 5, none⟩ = some (.int .i64 f'.x) ∧ w'.cell? ⟨w5'.heap.size, 6, none⟩ = some (.slice a2 f'.T.length c2) ∧ w'.cell? ⟨gO, j * 7, none⟩ = some (.int .i64 f'.r) ∧ w'.cell? ⟨gO, j * 7 + 1, none⟩ = some (.int .i64 f'.a) ∧ w'.cell? ⟨gO, j * 7 + 2, none⟩ = some (.int .i64 f'.b) ∧ w'.cell? ⟨gO, j * 7 + 3, none⟩ = some (.int .i64 f'.e) ∧ w'.cell? ⟨gO, j * 7 + 4, none⟩ = some (.int .i64 f'.n) ∧ w'.cell? ⟨gO, j * 7 + 5, none⟩ = some (.int .i64 f'.x) ∧ w'.cell? ⟨gO, j * 7 + 6, none⟩ = some (.slice a8 f'.T.length c8)) (by kernel_rfl) (HCl.out _ ((Below.refl w6'.heap.size w6').drew)) (fun hHeld => ?_)
          refine wpAnyF_take [17, 12, 9, 3, 1] (by kernel_rfl) (i := 0) (v := ?vh1) rfl (by kernel_rfl) (by kernel_rfl) (by kernel_rfl) (fun _ _ _ h => h) (Or.inl ⟨by kernel_rfl, ?hyh1⟩) hHeld ?resth1
          case hyh1 => intro w' hSw; (try dsimp only at hSw); go_simp; try with_reducible rfl
          simp only [Act.put]
          try dsimp only
          refine wpAnyF_takeC [17, 12, 9, 3] (by kernel_rfl) (i := 1) (v := .int .i64 0) rfl (by kernel_rfl) (by kernel_rfl) (by kernel_rfl) (fun _ _ _ h => h) ⟨by kernel_rfl, _, #[.int .i64 0], fun w' hSw => ⟨by (try dsimp only at hSw); go_simp; try rfl, HNum.out 0 w'⟩⟩ hHeld ?_
          simp only [Act.put]
          try dsimp only
          refine wpAnyF_take [17, 12, 9, 3] (by kernel_rfl) (i := 2) (v := ?vh2) rfl (by kernel_rfl) (by kernel_rfl) (by kernel_rfl) (fun _ _ _ h => h) (Or.inl ⟨by kernel_rfl, ?hyh2⟩) hHeld ?resth2
          case hyh2 => intro w' hSw; (try dsimp only at hSw); go_simp; try with_reducible rfl
          simp only [Act.put]
          try dsimp only
          refine wpAnyF_take [17, 12, 9] (by kernel_rfl) (i := 3) (v := ?vh3) rfl (by kernel_rfl) (by kernel_rfl) (by kernel_rfl) (fun _ _ _ h => h) (Or.inl ⟨by kernel_rfl, ?hyh3⟩) hHeld ?resth3
          case hyh3 => intro w' hSw; (try dsimp only at hSw); go_simp; try with_reducible rfl
          simp only [Act.put]
          try dsimp only
          refine wpAnyF_take [17, 12, 9] (by kernel_rfl) (i := 4) (v := ?vh4) rfl (by kernel_rfl) (by kernel_rfl) (by kernel_rfl) (fun _ _ _ h => h) (Or.inl ⟨by kernel_rfl, ?hyh4⟩) hHeld ?resth4
          case hyh4 => intro w' hSw; (try dsimp only at hSw); go_simp; try with_reducible rfl
          simp only [Act.put]
          try dsimp only
          refine wpAnyF_take [17, 12, 9, 8, 7] (by kernel_rfl) (i := 5) (v := ?vh5) rfl (by kernel_rfl) (by kernel_rfl) (by kernel_rfl) (fun _ _ _ h => h) (Or.inl ⟨by kernel_rfl, ?hyh5⟩) hHeld ?resth5
          case hyh5 => intro w' hSw; (try dsimp only at hSw); go_simp; try with_reducible rfl
          simp only [Act.put]
          try dsimp only
          refine wpAnyF_take [17, 12, 9, 8, 7] (by kernel_rfl) (i := 6) (v := ?vh6) rfl (by kernel_rfl) (by kernel_rfl) (by kernel_rfl) (fun _ _ _ h => h) (Or.inl ⟨by kernel_rfl, ?hyh6⟩) hHeld ?resth6
          case hyh6 => intro w' hSw; (try dsimp only at hSw); go_simp; try with_reducible rfl
          simp only [Act.put]
          try dsimp only
          refine wpAnyF_take [17, 12, 9, 8] (by kernel_rfl) (i := 7) (v := ?vh7) rfl (by kernel_rfl) (by kernel_rfl) (by kernel_rfl) (fun _ _ _ h => h) (Or.inl ⟨by kernel_rfl, ?hyh7⟩) hHeld ?resth7
          case hyh7 => intro w' hSw; (try dsimp only at hSw); go_simp; try with_reducible rfl
          simp only [Act.put]
          try dsimp only
          refine wpAnyF_take [17, 12, 9] (by kernel_rfl) (i := 8) (v := ?vh8) rfl (by kernel_rfl) (by kernel_rfl) (by kernel_rfl) (fun _ _ _ h => h) (Or.inl ⟨by kernel_rfl, ?hyh8⟩) hHeld ?resth8
          case hyh8 => intro w' hSw; (try dsimp only at hSw); go_simp; try with_reducible rfl
          simp only [Act.put]
          try dsimp only
          refine wpAnyF_ready (rs := [9]) (by kernel_rfl) (by simp) ?_
          refine AllReadyF.cons rfl (fun K hK => ?_) AllReadyF.nil
          go_simp
          refine HSame.out.mono ?_
          rintro e w7' ⟨rfl, hB7⟩
          have hBs : Below w6'.heap.size w6' w7' := below_to ((Below.refl w6'.heap.size w6').drew) hB7
          clear hB7
          dsimp only
          refine hK.out _ _ (HCl.out _ hBs) (fun hHeld => ?_)
          clear hK K
          refine wpAnyF_take [17, 12, 11] (by kernel_rfl) (i := 10) (v := ?vh9) rfl (by kernel_rfl) (by kernel_rfl) (by kernel_rfl) (fun _ _ _ h => h) (Or.inl ⟨by kernel_rfl, ?hyh9⟩) hHeld ?resth9
          case hyh9 => intro w' hSw; (try dsimp only at hSw); go_simp; try with_reducible rfl
          simp only [Act.put]
          try dsimp only
          refine wpAnyF_take [17, 12] (by kernel_rfl) (i := 11) (v := ?vh10) rfl (by kernel_rfl) (by kernel_rfl) (by kernel_rfl) (fun _ _ _ h => h) (Or.inl ⟨by kernel_rfl, ?hyh10⟩) hHeld ?resth10
          case hyh10 => intro w' hSw; (try dsimp only at hSw); go_simp; try with_reducible rfl
          simp only [Act.put]
          try dsimp only
          refine wpAnyF_take [17] (by kernel_rfl) (i := 12) (v := ?vh11) rfl (by kernel_rfl) (by kernel_rfl) (by kernel_rfl) (fun _ _ _ h => h) (Or.inl ⟨by kernel_rfl, ?hyh11⟩) hHeld ?resth11
          case hyh11 => intro w' hSw; (try dsimp only at hSw); go_simp; try with_reducible rfl
          simp only [Act.put]
          try dsimp only
          refine wpAnyF_take [17, 16, 14] (by kernel_rfl) (i := 13) (v := ?vh12) rfl (by kernel_rfl) (by kernel_rfl) (by kernel_rfl) (fun _ _ _ h => h) (Or.inl ⟨by kernel_rfl, ?hyh12⟩) hHeld ?resth12
          case hyh12 => intro w' hSw; (try dsimp only at hSw); go_simp; try with_reducible rfl
          simp only [Act.put]
          try dsimp only
          refine wpAnyF_take [17, 16] (by kernel_rfl) (i := 15) (v := ?vh13) rfl (by kernel_rfl) (by kernel_rfl) (by kernel_rfl) (fun _ _ _ h => h) (Or.inl ⟨by kernel_rfl, ?hyh13⟩) hHeld ?resth13
          case hyh13 => intro w' hSw; (try dsimp only at hSw); go_simp; try with_reducible rfl
          simp only [Act.put]
          try dsimp only
          refine wpAnyF_ready (rs := [14]) (by kernel_rfl) (by simp) ?_
          refine AllReadyF.cons rfl (fun K hK => ?_) AllReadyF.nil
          go_simp
          refine (HLen.out _ hBs).mono ?_
          rintro e w8' ⟨rfl, rfl⟩
          dsimp only
          refine hK.out _ _ (HCl.out _ hBs) (fun hHeld => ?_)
          clear hK K
          refine wpAnyF_take [17] (by kernel_rfl) (i := 16) (v := ?vh14) rfl (by kernel_rfl) (by kernel_rfl) (by kernel_rfl) (fun _ _ _ h => h) (Or.inl ⟨by kernel_rfl, ?hyh14⟩) hHeld ?resth14
          case hyh14 => intro w' hSw; (try dsimp only at hSw); go_simp; try with_reducible rfl
          simp only [Act.put]
          try dsimp only
          refine wpAnyF_ready (rs := [17]) (by kernel_rfl) (by simp) ?_
          refine AllReadyF.last rfl (fun K hK => ?_)
          go_simp
          refine hK.out _ _ ?_
          clear hK K
          refine wpAnyF_done (by kernel_rfl) ?_ _
          have HB7 := hide_ hBs
          clear hBs
          go_wp2_with fail
          go_roundw
          case rel => exact ⟨j, by omega, rfl, hide_ (HS6.out.later HB7.out), hide_ (HO6.out.later HB7.out), hide_ (below_to HB6.out HB7.out)⟩
          case measure => simp [intOf]
end Go.Proofs.Ytcmkdkocponpiaa
