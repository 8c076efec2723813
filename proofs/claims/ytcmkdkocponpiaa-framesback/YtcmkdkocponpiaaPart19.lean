import Derived.Test.YtcmkdkocponpiaaPart15
import Derived.Test.YtcmkdkocponpiaaPart18
import Derived.Test.YtcmkdkocponpiaaPart12

/- mortiselaw22: awake. -/
namespace Go.Proofs.Ytcmkdkocponpiaa
open Go.RowKit
set_option linter.unusedVariables false

abbrev fA : Fr := ⟨3, 7, 0, -1, -1, 0, []⟩
abbrev fB : Fr := ⟨3, 7, 9, 300, 0, 2, [12, 300]⟩
/-- A stack, and three blocks beside it that stay. -/
structure AwM (w0 w : World) (F : Nat → Prop) (g : Nat) (fs : List Fr) (m h : Int) (ga gt gb : Nat) : Prop where
  st : Stk w w0.heap.size F g fs m h
  ka : Blk w ga 39 (frc (fA, .slice none 0 0))
  kt : Blk w gt 3 [.int .i64 12, .int .i64 300]
  kb : Blk w gb 39 (frc (fB, .slice (some ⟨gt, 0, none⟩) 2 2))
  na : ¬ F ga
  nt : ¬ F gt
  nb : ¬ F gb
  bl : Below w0.heap.size w0 w
theorem AwM.later {w0 w w' : World} {F : Nat → Prop} {g : Nat} {fs : List Fr} {m h : Int} {ga gt gb : Nat} (H : AwM w0 w F g fs m h ga gt gb) (hB : Below w.heap.size w w') : AwM w0 w' F g fs m h ga gt gb :=
  ⟨H.st.later hB, H.ka.later hB, H.kt.later hB, H.kb.later hB, H.na, H.nt, H.nb, below_to H.bl hB⟩
theorem AwM.to {w0 w w' : World} {F : Nat → Prop} {g : Nat} {fs fs' : List Fr} {m h h' : Int} {ga gt gb : Nat} (H : AwM w0 w F g fs m h ga gt gb) (hto : StkTo w w0.heap.size F w' g fs' m h') : ∃ F', AwM w0 w' F' g fs' m h' ga gt gb := by
  obtain ⟨F', h1, h2, h3⟩ := hto
  refine ⟨F', h1, H.ka.upd h2 H.na, H.kt.upd h2 H.nt, H.kb.upd h2 H.nb, ?_, ?_, ?_, H.bl.trans (h2.below w0.heap.size H.bl.size (fun k hk => (H.st.lt hk).1))⟩
  · intro e
    rcases h3 _ e with h4 | h4
    · exact H.na h4
    · have := H.ka.lt; omega
  · intro e
    rcases h3 _ e with h4 | h4
    · exact H.nt h4
    · have := H.kt.lt; omega
  · intro e
    rcases h3 _ e with h4 | h4
    · exact H.nb h4
    · have := H.kb.lt; omega
theorem AwM.upd {w0 w w' : World} {F S : Nat → Prop} {g : Nat} {fs : List Fr} {m h : Int} {ga gt gb : Nat} (H : AwM w0 w F g fs m h ga gt gb) (hu : Upd S w w') (h1 : ∀ k, F k → ¬ S k) (h2 : ¬ S ga) (h3 : ¬ S gt) (h4 : ¬ S gb) (hb : Below w0.heap.size w w') : AwM w0 w' F g fs m h ga gt gb :=
  ⟨H.st.upd hu h1, H.ka.upd hu h2, H.kt.upd hu h3, H.kb.upd hu h4, H.na, H.nt, H.nb, H.bl.trans hb⟩
theorem two_last {l : List Fr} {y : Fr} (h : [fA, fB] = l ++ [y]) : l = [fA] ∧ y = fB := by
  have h1 := List.append_inj' (s₁ := [fA]) (t₁ := [fB]) h rfl
  exact ⟨h1.1.symm, by have := h1.2; simp only [List.cons.injEq, and_true] at this; exact this.symm⟩
theorem AwM.fra {w0 w : World} {F : Nat → Prop} {g : Nat} {fs : List Fr} {m h : Int} {ga gt gb : Nat} (H : AwM w0 w F g fs m h ga gt gb) : FrA w fB (some ⟨gt, 0, none⟩) 2 :=
  ⟨Row.mk (fun i hi => by
    have h := H.kt.cell i
    rw [Nat.zero_add, h]
    have hi' : i < 2 := hi
    rcases (show i = 0 ∨ i = 1 by omega) with rfl | rfl <;> rfl), fun h => (by cases h), by decide⟩
theorem fra_nil (w : World) (f : Fr) (h : f.T = []) : FrA w f none 0 := ⟨.inl ⟨rfl, h⟩, fun _ => rfl, by rw [h]; exact Nat.zero_le _⟩
theorem sv_two : sv [fA, fB] 2 2 = [102, 2, 2, 2, 3, 7, 0, 0, 0, 0, 0, 3, 7, 9, 173, 2, 1, 2, 2, 12, 172, 2] := by decide +kernel
theorem sk_two : SkOk [fA, fB] 2 2 := ⟨by decide, by decide, by decide, fun f hf => by
  simp only [List.mem_cons, List.not_mem_nil, or_false] at hf
  rcases hf with rfl | rfl <;> decide⟩
set_option maxRecDepth 100000 in
set_option maxHeartbeats 32000000 in
theorem awake_any (w : World) : Calls Try.prog 6 #[] w fun e w' => e = .returned (.bool true) ∧ Below w.heap.size w w' := by
  have HNum : Hid (∀ (n : Int) w', Calls Try.prog 10 #[.int .i64 n] w' fun e w'' => e = .returned (.int .i64 n) ∧ w' = w'') := hide_ (fun n w' => num_any n w')
  go_enter Try.func6, Try.ntmps6
  go_wp2_with fail
  refine (new_any 2 w).mono ?_
  rintro e w1 (⟨hbad, -, -⟩ | ⟨-, -, F1, rfl, hS1, hB1⟩)
  · exact absurd ⟨by decide, by decide⟩ hbad
  have HS1 := hide_ hS1
  have HB1 := hide_ hB1
  clear hS1 hB1
  go_wp2_with fail
  refine (new_any 0 w1).mono ?_
  rintro e w1' (⟨-, rfl, rfl⟩ | ⟨hbad, -⟩)
  rotate_left
  · omega
  obtain ⟨w4, hw4⟩ : ∃ wx, wx = ((w1.alloc (.cells #[.int .i64 3, .int .i64 7, .int .i64 0, .int .i64 (-1), .int .i64 (-1), .int .i64 0, .slice none 0 0] 39)).alloc (.cells #[.int .i64 12, .int .i64 300] 3)).alloc (.cells #[.int .i64 3, .int .i64 7, .int .i64 9, .int .i64 300, .int .i64 0, .int .i64 2, .slice (some ⟨w1.heap.size + 1, 0, none⟩) 2 2] 39) := ⟨_, rfl⟩
  have HA4 : Hid (AwM w w4 F1 w.heap.size [] 2 0 w1.heap.size (w1.heap.size + 1) (w1.heap.size + 1 + 1)) := hide_ (by
    obtain ⟨k1, k2⟩ := blk2 w1 #[.int .i64 3, .int .i64 7, .int .i64 0, .int .i64 (-1), .int .i64 (-1), .int .i64 0, .slice none 0 0] #[.int .i64 12, .int .i64 300] 39 3
    have hb : Below w1.heap.size w1 w4 := by rw [hw4]; exact (below2 w1 _ _).alloc (by simp; omega) _
    have hn : ∀ k, w1.heap.size ≤ k → ¬ F1 k := fun k hk e => by have := (HS1.out.lt e).2; omega
    refine ⟨HS1.out.later hb, by rw [hw4]; exact k1.alloc _, by rw [hw4]; exact k2.alloc _, ?_, hn _ (Nat.le_refl _), hn _ (by omega), hn _ (by omega), below_to HB1.out hb⟩
    have h3 := Blk.newA ((w1.alloc (.cells #[.int .i64 3, .int .i64 7, .int .i64 0, .int .i64 (-1), .int .i64 (-1), .int .i64 0, .slice none 0 0] 39)).alloc (.cells #[.int .i64 12, .int .i64 300] 3)) #[.int .i64 3, .int .i64 7, .int .i64 9, .int .i64 300, .int .i64 0, .int .i64 2, .slice (some ⟨w1.heap.size + 1, 0, none⟩) 2 2] 39
    rw [hw4]
    simpa [frc] using h3)
  go_upto_region 7 with (go_at_call 10; refine (HNum.out _ _).mono ?_; rintro e w' ⟨rfl, rfl⟩)
  rw [← hw4]
  clear hw4 HS1 HB1
  generalize w1.heap.size = ga at *
  have a0 := HA4.out.ka.cell 0; have a1 := HA4.out.ka.cell 1; have a2 := HA4.out.ka.cell 2; have a3 := HA4.out.ka.cell 3; have a4 := HA4.out.ka.cell 4; have a5 := HA4.out.ka.cell 5; have a6 := HA4.out.ka.cell 6
  simp [frc] at a0 a1 a2 a3 a4 a5 a6
  go_wp2_with fail
  refine (push_any w4 w.heap.size F1 w.heap.size [] 2 0 fA none 0 (hide_ HA4.out.st) (hide_ (fra_nil w4 fA rfl)) HA4.out.bl.size).mono ?_
  rintro e w5 (⟨hb, -, -⟩ | ⟨-, hb, -, -⟩ | ⟨-, -, rfl, hto⟩)
  · simp at hb
  · exact absurd hb (by decide)
  obtain ⟨F5, hA5⟩ := HA4.out.to hto
  have HA5 : Hid (AwM w w5 F5 w.heap.size [fA] 2 1 ga (ga + 1) (ga + 1 + 1)) := hide_ (by
    have e : max (0 : Int) 1 = 1 := by decide
    have h := hA5
    simp at h
    rw [e] at h
    exact h)
  clear a0 a1 a2 a3 a4 a5 a6 hto hA5 HA4
  have b0 := HA5.out.kb.cell 0; have b1 := HA5.out.kb.cell 1; have b2 := HA5.out.kb.cell 2; have b3 := HA5.out.kb.cell 3; have b4 := HA5.out.kb.cell 4; have b5 := HA5.out.kb.cell 5; have b6 := HA5.out.kb.cell 6
  simp [frc] at b0 b1 b2 b3 b4 b5 b6
  go_wp2_with (go_at_call 10; refine (HNum.out _ _).mono ?_; rintro e w' ⟨rfl, rfl⟩)
  refine (push_any w5 w.heap.size F5 w.heap.size [fA] 2 1 fB (some ⟨ga + 1, 0, none⟩) 2 (hide_ HA5.out.st) (hide_ HA5.out.fra) HA5.out.bl.size).mono ?_
  rintro e w6 (⟨hb, -, -⟩ | ⟨-, hb, -, -⟩ | ⟨-, -, rfl, hto⟩)
  · simp at hb
  · exact absurd hb (by decide)
  obtain ⟨F6, hA6⟩ := HA5.out.to hto
  have HA6 : Hid (AwM w w6 F6 w.heap.size [fA, fB] 2 2 ga (ga + 1) (ga + 1 + 1)) := hide_ (by
    have e : max (1 : Int) 2 = 2 := by decide
    have h := hA6
    simp at h
    rw [e] at h
    exact h)
  clear b0 b1 b2 b3 b4 b5 b6 hto hA6 HA5
  have a0 := HA6.out.ka.cell 0; have a1 := HA6.out.ka.cell 1; have a2 := HA6.out.ka.cell 2; have a3 := HA6.out.ka.cell 3; have a4 := HA6.out.ka.cell 4; have a5 := HA6.out.ka.cell 5; have a6 := HA6.out.ka.cell 6
  simp [frc] at a0 a1 a2 a3 a4 a5 a6
  go_wp2_with (go_at_call 10; refine (HNum.out _ _).mono ?_; rintro e w' ⟨rfl, rfl⟩)
  refine (push_any w6 w.heap.size F6 w.heap.size [fA, fB] 2 2 fA none 0 (hide_ HA6.out.st) (hide_ (fra_nil w6 fA rfl)) HA6.out.bl.size).mono ?_
  rintro e w7 (⟨-, rfl, hto⟩ | ⟨hb, -, -, -⟩ | ⟨hb, -, -, -⟩)
  rotate_left
  · simp at hb
  · simp at hb
  obtain ⟨F7, hA7⟩ := HA6.out.to hto
  have HA7 := hide_ hA7
  clear a0 a1 a2 a3 a4 a5 a6 hto hA7 HA6
  have HLen := hide_ (lenS HA7.out.st (z := 2) rfl)
  have HHi := hide_ (highS HA7.out.st)
  go_wp2_with (first | (go_at_call 10; refine (HNum.out _ _).mono ?_; rintro e w' ⟨rfl, rfl⟩) | (go_at_call 11; refine HLen.out.mono ?_; rintro e w' ⟨rfl, rfl⟩) | (go_at_call 12; refine HHi.out.mono ?_; rintro e w' ⟨rfl, rfl⟩))
  refine (slots_any w7 w.heap.size F7 w.heap.size [fA, fB] 2 2 (hide_ HA7.out.st)).mono ?_
  rintro e w8 ⟨rfl, hB8⟩
  have HA8 := hide_ (HA7.out.later hB8)
  have hl2 : ((lastT [fA, fB]).length : Int) = 2 := rfl
  rw [hl2]
  clear hl2 hB8 HA7 HLen HHi
  go_wp2_with fail
  refine (slot_any w8 w.heap.size F7 w.heap.size [fA, fB] 2 2 1 (hide_ HA8.out.st)).mono ?_
  rintro e w9 (⟨hb, -, -⟩ | ⟨-, hb, -, -⟩ | ⟨-, -, -, rfl, hB9⟩)
  · cases hb
  · exact absurd ⟨by decide, by decide⟩ hb
  have HA9 := hide_ (HA8.out.later hB9)
  have hsl : (lastT [fA, fB]).getD (1 : Int).toNat 0 = 300 := rfl
  rw [hsl]
  clear hsl hB9 HA8
  go_wp2_with fail
  refine (save_any w9 w.heap.size F7 w.heap.size [fA, fB] 2 2 (hide_ HA9.out.st)).mono ?_
  rintro e w10 ⟨v, rfl, hO, hB10⟩
  have HA10 := hide_ (HA9.out.later hB10)
  have HWg : Hid (w.heap.size ≤ w10.heap.size) := hide_ HA10.out.bl.size
  obtain ⟨ac, cc, hv, hrow, hnil, hcc, hcm⟩ := BOwn.row hO
  subst hv
  unfold maxLen at hcm
  rw [sv_two] at hrow hcc
  have hlen : (sv [fA, fB] 2 2).length = 22 := by rw [sv_two]; rfl
  rw [hlen]
  have HRow := hide_ hrow
  clear hO hB10 HA9 hrow hlen
  have hby : Bys [102, 2, 2, 2, 3, 7, 0, 0, 0, 0, 0, 3, 7, 9, 173, 2, 1, 2, 2, 12, 172, 2] := by unfold Bys; decide
  have HLd := hide_ (load_any ac cc [102, 2, 2, 2, 3, 7, 0, 0, 0, 0, 0, 3, 7, 9, 173, 2, 1, 2, 2, 12, 172, 2] w10 HRow hnil (hide_ hby) hcc hcm)
  have HD : Hid (ldP [102, 2, 2, 2, 3, 7, 0, 0, 0, 0, 0, 3, 7, 9, 173, 2, 1, 2, 2, 12, 172, 2] = .ok ([fA, fB], 2, 2)) := hide_ (by
    have h := ldC sk_two [] 22 (by rw [List.append_nil, sv_two]; decide)
    rw [List.append_nil, sv_two] at h
    exact h)
  clear hby hcc
  go_wp2_with fail
  refine HLd.out.mono ?_
  rintro e w11 (⟨fs, m, h, F2, gs, hx, rfl, HS2, HB11⟩ | ⟨er, at_, hx, -, -⟩)
  rotate_left
  · rw [HD.out] at hx; cases hx
  rw [HD.out] at hx
  injection hx with hx
  injection hx with e1 hx
  injection hx with e2 e3
  subst e1 e2 e3
  have HA11 := hide_ (HA10.out.later HB11.out)
  have HRow11 := hide_ (HRow.out.later HB11.out)
  have HFl : Hid (∀ k, F2 k → w10.heap.size ≤ k ∧ k < w11.heap.size) := hide_ (fun k hk => HS2.out.lt hk)
  have HL10 : Hid ((∀ k, F7 k → k < w10.heap.size) ∧ ga < w10.heap.size ∧ ga + 1 < w10.heap.size ∧ ga + 1 + 1 < w10.heap.size) := hide_ ⟨fun k hk => (HA10.out.st.lt hk).2, HA10.out.ka.lt, HA10.out.kt.lt, HA10.out.kb.lt⟩
  obtain ⟨w12, hw12⟩ : ∃ wx, wx = w11.alloc (.cells #[.int .i64 0, .int .i64 0] 31) := ⟨_, rfl⟩
  have hB12 : Below w11.heap.size w11 w12 := by rw [hw12]; exact below1 _ _
  have kf : Blk w12 w11.heap.size 31 [.int .i64 0, .int .i64 0] := by rw [hw12]; exact Blk.newA w11 _ _
  have f0 := kf.cell 0
  simp at f0
  have HA12 := hide_ (HA11.out.later hB12)
  have HS12 := hide_ (HS2.out.later hB12)
  have hcv : (convert 23 9 (.slice ac 22 cc)).run Try.prog w12 = .ok (.string ⟨#[102, 2, 2, 2, 3, 7, 0, 0, 0, 0, 0, 3, 7, 9, 173, 2, 1, 2, 2, 12, 172, 2]⟩) w12 := conv_row E23 Try.underlying9 w12 ac 22 cc [102, 2, 2, 2, 3, 7, 0, 0, 0, 0, 0, 3, 7, 9, 173, 2, 1, 2, 2, 12, 172, 2] rfl (HRow11.out.later hB12)
  have HB12s : Hid (w11.heap.size ≤ w12.heap.size) := hide_ hB12.size
  have HB11s : Hid (w10.heap.size ≤ w11.heap.size) := hide_ HB11.out.size
  clear hB12 kf HA10 HA11 HRow HRow11 HS2 HB11 HLd HD
  go_upto_region 12 with fail
  rw [← hw12]
  clear hw12
  go_wp2_with (go_at_call 10; refine (HNum.out _ _).mono ?_; rintro e w' ⟨rfl, rfl⟩)
  refine (pop_any w12 w10.heap.size F2 gs [fA, fB] 2 2 HS12 (by have := HB12s.out; have := HB11s.out; omega)).mono ?_
  rintro e w13 (⟨hb, -⟩ | ⟨l, f, a2, c2, hfs, rfl, HI13, -, HU13⟩)
  · cases hb
  obtain ⟨rfl, rfl⟩ := two_last hfs
  have HA13 : Hid (AwM w w13 F7 w.heap.size [fA, fB] 2 2 ga (ga + 1) (ga + 1 + 1)) := hide_ (by
    obtain ⟨l1, l2, l3, l4⟩ := HL10.out
    refine HA12.out.upd HU13.out (fun k hk e => ?_) (fun e => ?_) (fun e => ?_) (fun e => ?_) (HU13.out.below w.heap.size HA12.out.bl.size (fun k hk => ?_))
    · have := (HFl.out k e).1; have := l1 k hk; omega
    · have := (HFl.out _ e).1; omega
    · have := (HFl.out _ e).1; omega
    · have := (HFl.out _ e).1; omega
    · have h1 := (HFl.out k hk).1
      have h3 := HWg.out
      omega)
  clear HA12 HU13 HS12 hfs hcv f0
  obtain ⟨w14, hw14⟩ : ∃ wx, wx = w13.alloc (.cells #[.int .i64 3, .int .i64 7, .int .i64 9, .int .i64 300, .int .i64 0, .int .i64 2, .slice a2 2 c2] 39) := ⟨_, rfl⟩
  have hB14 : Below w13.heap.size w13 w14 := by rw [hw14]; exact below1 _ _
  have K14 : Hid (Blk w14 w13.heap.size 39 (frc (fB, .slice a2 2 c2))) := hide_ (by rw [hw14]; exact Blk.newA w13 _ _)
  have HA14 := hide_ (HA13.out.later hB14)
  have HI14 := hide_ (HI13.out.later hB14)
  clear hB14 HA13 HI13
  go_upto_region 15 with fail
  rw [← hw14]
  clear hw14
  go_wp2_with fail
  refine (head_any w14 w.heap.size F7 w.heap.size [fA, fB] 2 2 (hide_ HA14.out.st)).mono ?_
  rintro e w15 (⟨hb, -⟩ | ⟨l, f, hfs, rfl, hB15⟩)
  · cases hb
  obtain ⟨rfl, rfl⟩ := two_last hfs
  have HA15 := hide_ (HA14.out.later hB15)
  have HI15 := hide_ (HI14.out.later hB15)
  have K15 := hide_ (K14.out.later hB15)
  obtain ⟨w16, hw16⟩ : ∃ wx, wx = w15.alloc (.cells #[.int .i64 3, .int .i64 7, .int .i64 9, .int .i64 300, .int .i64 0, .int .i64 2, .slice none 0 0] 39) := ⟨_, rfl⟩
  have hB16 : Below w15.heap.size w15 w16 := by rw [hw16]; exact below1 _ _
  have J16 : Hid (Blk w16 w15.heap.size 39 (frc (⟨3, 7, 9, 300, 0, 2, []⟩, .slice none 0 0))) := hide_ (by rw [hw16]; exact Blk.newA w15 _ _)
  have HA16 := hide_ (HA15.out.later hB16)
  have HI16 := hide_ (HI15.out.later hB16)
  have K16 := hide_ (K15.out.later hB16)
  clear hB15 hB16 HA14 HI14 K14 HA15 HI15 K15 hfs
  go_upto_region 16 with fail
  rw [← hw16]
  clear hw16
  have y0 := K16.out.cell 0; have y1 := K16.out.cell 1; have y2 := K16.out.cell 2; have y3 := K16.out.cell 3; have y4 := K16.out.cell 4; have y5 := K16.out.cell 5; have y6 := K16.out.cell 6
  have b0 := HA16.out.kb.cell 0; have b1 := HA16.out.kb.cell 1; have b2 := HA16.out.kb.cell 2; have b3 := HA16.out.kb.cell 3; have b4 := HA16.out.kb.cell 4; have b5 := HA16.out.kb.cell 5; have b6 := HA16.out.kb.cell 6
  simp [frc] at y0 y1 y2 y3 y4 y5 y6
  simp [frc] at b0 b1 b2 b3 b4 b5 b6
  have hfy : FrA w16 fB a2 c2 := by
    obtain ⟨a9, c9, h9, hf9⟩ := HI16.out.fra (f := fB)
    injection h9 with h91 _ h93
    subst h91 h93
    exact hf9
  have HSame := hide_ (same_yes fB a2 (some ⟨ga + 1, 0, none⟩) c2 2 w16 (hide_ hfy) (hide_ HA16.out.fra))
  clear hfy
  go_wp2_with (go_at_call 10; refine (HNum.out _ _).mono ?_; rintro e w' ⟨rfl, rfl⟩)
  refine HSame.out.mono ?_
  rintro e w17 ⟨rfl, hB17⟩
  have HA17 := hide_ (HA16.out.later hB17)
  have J17 := J16.out.later hB17
  clear y0 y1 y2 y3 y4 y5 y6
  clear b0 b1 b2 b3 b4 b5 b6
  have z5 := J17.cell 5; have z6 := J17.cell 6
  simp [frc] at z5 z6
  have a0 := HA17.out.ka.cell 0; have a1 := HA17.out.ka.cell 1; have a2 := HA17.out.ka.cell 2; have a3 := HA17.out.ka.cell 3; have a4 := HA17.out.ka.cell 4; have a5 := HA17.out.ka.cell 5; have a6 := HA17.out.ka.cell 6
  simp [frc] at a0 a1 a2 a3 a4 a5 a6
  clear HSame hB17 J17 HA16
  go_wp2_with (go_at_call 10; refine (HNum.out _ _).mono ?_; rintro e w' ⟨rfl, rfl⟩)
  refine (go_any w17 w.heap.size F7 w.heap.size [fA, fB] 2 2 fA none 0 0 (hide_ HA17.out.st) HA17.out.bl.size).mono ?_
  rintro e w18 (⟨hb, -⟩ | ⟨-, hb, -⟩ | ⟨l, y, hfs, -, rfl, hto⟩)
  · cases hb
  · exact absurd hb (by decide)
  obtain ⟨rfl, rfl⟩ := two_last hfs
  obtain ⟨F18, hA18⟩ := HA17.out.to hto
  have HA18 := hide_ hA18
  clear a0 a1 a2 a3 a4 a5 a6
  clear z5 z6 hfs hto hA18 HA17
  go_wp2_with (go_at_call 10; refine (HNum.out _ _).mono ?_; rintro e w' ⟨rfl, rfl⟩)
  refine (mark_any w18 w.heap.size F18 w.heap.size ([fA] ++ [hdf fA [12, 300]]) 2 2 301 (hide_ HA18.out.st) HA18.out.bl.size).mono ?_
  rintro e w19 (⟨hb, -⟩ | ⟨-, hb, -⟩ | ⟨-, -, hb, -⟩ | ⟨l, y, hfs, -, -, rfl, hto⟩)
  · simp at hb
  · exact absurd hb (by decide)
  · exact absurd hb (by decide)
  have hyl : y = hdf fA [12, 300] := by
    have h1 := List.append_inj' hfs rfl
    have := h1.2
    simp only [List.cons.injEq, and_true] at this
    exact this.symm
  subst hyl
  obtain ⟨F19, hA19⟩ := HA18.out.to hto
  have HA19 := hide_ hA19
  clear hfs hto hA19 HA18
  have HSl : Hid (Calls Try.prog 20 #[.pointer (some ⟨w.heap.size, 0, none⟩)] w19 fun e w' => e = .returned (.int .i64 3) ∧ Below w19.heap.size w19 w') := hide_ (by
    have h := slots_any w19 w.heap.size F19 w.heap.size (l ++ [hdf (hdf fA [12, 300]) ((hdf fA [12, 300]).T ++ [301])]) 2 2 (hide_ HA19.out.st)
    rw [lastT_app] at h
    exact h)
  go_wp2_with (go_at_call 10; refine (HNum.out _ _).mono ?_; rintro e w' ⟨rfl, rfl⟩)
  refine HSl.out.mono ?_
  rintro e w20 ⟨rfl, hB20⟩
  have HBf := hide_ (below_to HA19.out.bl hB20)
  clear hB20
  go_wp2_with fail
  go_ret
  exact ⟨rfl, HBf.out⟩
end Go.Proofs.Ytcmkdkocponpiaa

/- mortiselaw22: what FramesBack asks, plain; two appends. -/
namespace Go.Proofs.Ytcmkdkocponpiaa
open Go.RowKit
set_option linter.unusedVariables false

theorem Stk.skok {w : World} {B g : Nat} {F : Nat → Prop} {fs : List Fr} {m h : Int} (H : Stk w B F g fs m h) : SkOk fs m h := by
  obtain ⟨v, P, hM, rfl, -, -⟩ := H
  exact ⟨hM.hm, by simpa using hM.hl, by simpa using hM.hh, fun f hf => by
    obtain ⟨p, hp, rfl⟩ := List.mem_map.1 hf
    exact hM.rt p hp⟩
theorem fm_bys (x : Int) : Bys (fm x) := form_bys _
theorem flat_bys {α : Type} {f : α → List Int} {l : List α} (h : ∀ x, Bys (f x)) : Bys (l.flatMap f) := fun x hx => by
  obtain ⟨a, _, ha⟩ := List.mem_flatMap.1 hx
  exact h a x ha
theorem sv_bys (fs : List Fr) (m h : Int) : Bys (sv fs m h) := by
  unfold sv svH
  refine ((((?_ : Bys [102]).append (fm_bys m)).append (fm_bys _)).append (fm_bys h)).append (flat_bys (fun f => ?_))
  · unfold Bys; decide
  · unfold svF
    exact (flat_bys fm_bys).append (flat_bys fm_bys)
/-- The bytes of a stack. -/
structure WOk (W : List Int) (fs : List Fr) (m h : Int) : Prop where
  eq : sv fs m h = W
  all : ldP W = .ok (fs, m, h)
  cut : ∀ k, k < W.length → ldP (W.take k) = .error (20, (k : Int))
  more : ∀ r, 0 < r.length → ldP (W ++ r) = .error (124, (W.length : Int))
  bys : Bys W
  pos : 0 < W.length
  small : W.length ≤ 500000000
theorem wok {fs : List Fr} {m h : Int} (ok : SkOk fs m h) (h40 : fs.length ≤ 41) : WOk (sv fs m h) fs m h := by
  have hp : 0 < (sv fs m h).length := by simp [sv, svH]
  have h1 := ok.hm; have h2 := ok.hl; have h3 := ok.hh
  refine ⟨rfl, ?_, fun k hk => ?_, fun r hr => ?_, sv_bys _ _ _, hp, ?_⟩
  · have h := ldC ok [] (sv fs m h).length (by simp)
    rw [List.append_nil, List.take_length, if_neg (Nat.lt_irrefl _), if_neg (Nat.lt_irrefl _)] at h
    exact h
  · have h := ldC ok [] k (by simp; omega)
    rw [List.append_nil, if_pos hk] at h
    exact h
  · have h := ldC ok r (sv fs m h ++ r).length (Nat.le_refl _)
    rw [List.take_length, if_neg (by simp), if_pos (by simp; omega)] at h
    exact h
  · have a := svs_len fs ok.rt
    have b := svH_len fs.length m h (by omega) (by omega) (by omega)
    have e : (sv fs m h).length = (svH fs.length m h).length + (fs.flatMap svF).length := by simp [sv]
    have c : fs.length * 10485830 ≤ 41 * 10485830 := Nat.mul_le_mul_right _ h40
    omega
theorem ncap_leF {need old : Nat} (h : old < need) : Builtin.nextslicecap need old ≤ need + need / 4 + 1000 := by
  unfold Builtin.nextslicecap
  split
  · omega
  · split
    · omega
    · rw [growBy_four]
      repeat' split
      all_goals omega
/-- append(v, x...) of bytes, where the whole may be greater than half of what memory holds. -/
theorem run_appWF (w : World) {B : Nat} {v : Value} {l r : List Int} (hown : w.ownsRow B 5 1 v l.length (cellsL .u8 l)) (h0 : 0 < l.length) (a : Option Addr) (cap : Nat) (hrow : Row .u8 w a r) (hr0 : 0 < r.length) (hb : l.length + r.length ≤ 200000000000000) (hbase : B ≤ w.heap.size) :
    ∃ v' w', (Builtin.append_ #[23, 23] 23 #[v, .slice a r.length cap]).run Try.prog w = .ok v' w' ∧ w'.ownsRow B 5 1 v' (l.length + r.length) (cellsL .u8 (l ++ r)) ∧ Upd (fun k => v.ownBlock = some k) w w' := by
  obtain ⟨i0, hi, hz0, hz1, hz2⟩ := info_parts E23.info
  obtain ⟨g, cp, ys, rfl, hg, hn, hm, hl, ht, hk⟩ := ownS_blk hown h0
  rcases hrow with ⟨_, e⟩ | ⟨x, rfl, hc⟩
  · subst e; simp at hr0
  have hnl : (cellsL .u8 r).length = r.length * 1 := by rw [cellsL_length, Nat.mul_one]
  have hol : (cellsL .u8 l).length = l.length * 1 := by rw [cellsL_length, Nat.mul_one]
  have hnews : ∀ j u, (cellsL .u8 r)[j]? = some u → w.cell? (x.add j) = some u := fun j u hj => by obtain ⟨h, rfl⟩ := cellsL_get .u8 r j u hj; exact hc j h
  by_cases hroom : l.length + r.length ≤ cp
  · obtain ⟨w', q1, q2, q3⟩ := run_append_fits (P := Try.prog) w B 23 23 5 i0 1 E23.sl hi hz1 g l.length cp (cellsL .u8 l) hown x r.length cap (cellsL .u8 r) hnl hnews (cellsL_one .u8 r) hroom
    rw [← cellsL_append] at q2
    exact ⟨_, w', q1, q2, (Upd.refl _ w).grown q3 (fun k hk => .inl (by rw [← hk]; rfl))⟩
  · have hold : ∀ j u, (cellsL .u8 l)[j]? = some u → w.cell? ((⟨g, 0, none⟩ : Addr).add j) = some u := fun j u hj => by
      rw [add_none, Nat.zero_add, hk.cell]
      rw [← ht, List.getElem?_take] at hj
      split at hj
      · exact hj
      · cases hj
    have hfit : Builtin.nextslicecap (l.length + r.length) cp * i0.bytes ≤ 281474976710656 := by
      have := ncap_leF (need := l.length + r.length) (old := cp) (by omega)
      rw [hz2]
      omega
    have hr := run_append_grow (P := Try.prog) w 23 23 5 i0 (.int .u8 0) E23.sl hi hz0 ⟨g, 0, none⟩ l.length cp (cellsL .u8 l) (by rw [hz1]; exact hol) hold x r.length cap (cellsL .u8 r) (by rw [hz1]; exact hnl) hnews (by omega) (by omega) hfit
    have hge := grownCap_ge w (l.length + r.length) cp 5
    have hcm := grownCap_le_maxLen w (l.length + r.length) cp 5 (by unfold maxLen; omega)
    generalize grownCap w (l.length + r.length) cp 5 = cc at *
    obtain ⟨arr, harr⟩ : ∃ arr, arr = (cellsL .u8 l).toArray ++ (cellsL .u8 r).toArray ++ Builtin.zeroCells (Value.cells (.int .u8 0)) (cc - (l.length + r.length)) := ⟨_, rfl⟩
    rw [← harr] at hr
    have hsz : arr.toList.length = cc * 1 := by
      rw [harr, Array.length_toList, Array.size_append, Array.size_append, size_zeroCells, List.size_toArray, List.size_toArray, hol, hnl]
      have : (Value.cells (.int .u8 0)).size = 1 := rfl
      rw [this]
      omega
    have htk : arr.toList.take ((l.length + r.length) * 1) = cellsL .u8 (l ++ r) := by
      rw [harr, Array.toList_append, Array.toList_append, cellsL_append, List.take_left' (by simp [cellsL_length])]
    have hbk : Blk (w.drew.alloc (.cells arr 5)) w.heap.size 5 arr.toList := Blk.newA w.drew arr 5
    have ho := ownS_of_blk (B := B) (n := l.length + r.length) (c := 1) (cap := cc) hbk hbase hsz hge hcm
    rw [htk] at ho
    exact ⟨_, _, hr, ho, ((Upd.refl _ w).drew).alloc _⟩
/-- append(append([]byte(nil), b...), more...). -/
theorem two_apps (w : World) (ab am : Option Addr) (cb cm : Nat) (W M : List Int) (hW0 : 0 < W.length) (hM0 : 0 < M.length) (hWs : W.length ≤ 500000000) (hMs : M.length ≤ 140737488351232) (hW : Row .u8 w ab W) (hM : Row .u8 w am M) :
    ∃ a1 c1 w1 a2 c2 w2, (Builtin.append_ #[23, 23] 23 #[.slice none 0 0, .slice ab W.length cb]).run Try.prog w = .ok (.slice a1 W.length c1) w1 ∧
      (Builtin.append_ #[23, 23] 23 #[.slice a1 W.length c1, .slice am M.length cm]).run Try.prog w1 = .ok (.slice a2 (W ++ M).length c2) w2 ∧
      Row .u8 w2 a2 (W ++ M) ∧ (a2 = none → c2 = 0) ∧ (W ++ M).length ≤ c2 ∧ c2 ≤ 9223372036854775807 ∧ Below w.heap.size w w2 := by
  have hnil : ab = none → cb = 0 := fun e => by
    subst e
    rcases hW with ⟨_, e⟩ | ⟨x, e, _⟩
    · subst e; simp at hW0
    · cases e
  obtain ⟨v1, w1, r1, o1, g1⟩ := run_app E23 w 23 w.heap.size (.slice none 0 0) 0 [] (World.ownsRow_nil _ _ _ _) ab W.length cb W rfl hW hnil (by unfold maxLen; omega) (by omega) (Nat.le_refl _)
  have hu1 : Upd (fun _ => False) w w1 := (Upd.refl _ w).grown g1 (fun k hk => .inl (by cases hk))
  have hb1 := hu1.below w.heap.size (Nat.le_refl _) (fun k hk => hk.elim)
  simp only [Nat.zero_add, List.nil_append] at o1
  obtain ⟨a1, c1, rfl, hc1, _, _⟩ := BOwn.row o1
  obtain ⟨v2, w2, r2, o2, g2⟩ := run_appWF w1 o1 hW0 am cm (hM.later hb1) hM0 (by omega) hb1.size
  have hb2 := hb1.trans (g2.below w.heap.size hb1.size (fun k hk => (o1.lt k hk).1))
  have o2' : BOwn w2 w.heap.size v2 (W ++ M) := by unfold BOwn; rw [List.length_append]; exact o2
  obtain ⟨a2, c2, rfl, hr2, hn2, hl2, hm2⟩ := BOwn.row o2'
  unfold maxLen at hm2
  exact ⟨a1, c1, w1, a2, c2, w2, r1, r2, hr2, hn2, hl2, by omega, hb2⟩
theorem FOwn.at7b {w : World} {B gO n cap j : Nat} {P : List (Fr × Value)} {f : Fr} {v : Value} (h : FOwn w B (.slice (some ⟨gO, 0, none⟩) n cap) P) (hx : P[j]? = some (f, v)) :
    w.cell? ⟨gO, j * 7, none⟩ = some (.int .i64 f.r) ∧ w.cell? ⟨gO, j * 7 + 1, none⟩ = some (.int .i64 f.a) ∧ w.cell? ⟨gO, j * 7 + 2, none⟩ = some (.int .i64 f.b) ∧ w.cell? ⟨gO, j * 7 + 3, none⟩ = some (.int .i64 f.e) ∧ w.cell? ⟨gO, j * 7 + 4, none⟩ = some (.int .i64 f.n) ∧ w.cell? ⟨gO, j * 7 + 5, none⟩ = some (.int .i64 f.x) ∧ w.cell? ⟨gO, j * 7 + 6, none⟩ = some v := by
  obtain ⟨a, c, e, -, -, hr⟩ := h.slice
  injection e with e1 _ _
  subst e1
  have hl := (List.getElem?_eq_some_iff.1 hx).1
  obtain ⟨b, o, e2, -, hc⟩ := hr.open (by omega)
  injection e2 with e2
  injection e2 with e3 e4 _
  subst e3 e4
  have hcx := hc j _ hx
  have h0 := hcx 0 (by decide); have h1 := hcx 1 (by decide); have h2 := hcx 2 (by decide); have h3 := hcx 3 (by decide); have h4 := hcx 4 (by decide); have h5 := hcx 5 (by decide); have h6 := hcx 6 (by decide)
  simp only [Nat.zero_add, Nat.add_zero] at h0 h1 h2 h3 h4 h5 h6
  exact ⟨h0, h1, h2, h3, h4, h5, h6⟩
abbrev fE : Fr := ⟨0, 0, 0, -1, -1, 0, []⟩
theorem rep_app (n : Nat) (f : Fr) : List.replicate n f ++ [f] = List.replicate (n + 1) f := by
  rw [List.replicate_succ']
end Go.Proofs.Ytcmkdkocponpiaa

/- mortiselaw22: FramesBack. -/
namespace Go.Proofs.Ytcmkdkocponpiaa
open Go.RowKit
set_option linter.unusedVariables false

/-- The statement's list, and the stack that was loaded, above it. -/
structure BkM (w0 w : World) (v : Value) (P : List (Fr × Value)) (B2 : Nat) (F2 : Nat → Prop) (g2 : Nat) (fs2 : List Fr) (m h2 : Int) : Prop where
  ow : FOwn w w0.heap.size v P
  st : Stk w B2 F2 g2 fs2 m h2
  low : ∀ k, OwB v P k → k < B2
  bb : w0.heap.size ≤ B2
  bw : B2 ≤ w.heap.size
  bl : Below w0.heap.size w0 w
theorem BkM.later {w0 w w' : World} {v : Value} {P : List (Fr × Value)} {B2 : Nat} {F2 : Nat → Prop} {g2 : Nat} {fs2 : List Fr} {m h2 : Int} (H : BkM w0 w v P B2 F2 g2 fs2 m h2) (hB : Below w.heap.size w w') : BkM w0 w' v P B2 F2 g2 fs2 m h2 :=
  ⟨H.ow.later hB, H.st.later hB, H.low, H.bb, Nat.le_trans H.bw hB.size, below_to H.bl hB⟩
theorem BkM.upd {w0 w w' : World} {v : Value} {P : List (Fr × Value)} {B2 : Nat} {F2 F3 : Nat → Prop} {g2 : Nat} {fs2 fs3 : List Fr} {m h2 h3 : Int} (H : BkM w0 w v P B2 F2 g2 fs2 m h2) (hu : Upd F2 w w') (hS : Stk w' B2 F3 g2 fs3 m h3) : BkM w0 w' v P B2 F3 g2 fs3 m h3 :=
  ⟨H.ow.updO hu (fun k hk e => by have := H.low k hk; have := (H.st.lt e).1; omega), hS, H.low, H.bb, Nat.le_trans H.bw hu.size,
    H.bl.trans (hu.below w0.heap.size H.bl.size (fun k hk => Nat.le_trans H.bb (H.st.lt hk).1))⟩
set_option maxRecDepth 100000 in
set_option maxHeartbeats 32000000 in
theorem fback_any (a am ao : Option Addr) (c cm co : Nat) (L : List (Fr × Value)) (gone at_ : Int) (M O : List Int) (w : World) (hcap : L.length ≤ c) (hcmx : c ≤ 9223372036854775807) (hMc : M.length ≤ cm) (hMs : M.length ≤ 140737488351232) (hMn : am = none → cm = 0) (hOc : O.length ≤ co) (hOx : co ≤ 9223372036854775807) (hOn : ao = none → co = 0) (hL : Hid (LRow w a L)) (hM : Hid (Row .u8 w am M)) (hMb : Hid (Bys M)) (hO : Hid (Row .u8 w ao O)) (hOb : Hid (Bys O)) :
    Calls Try.prog 3 #[.slice a L.length c, .int .i64 gone, .int .i64 at_, .slice am M.length cm, .slice ao O.length co] w fun e w' => e = .returned (.bool true) ∧ Below w.heap.size w w' := by
  have HNum : Hid (∀ (n : Int) w', Calls Try.prog 10 #[.int .i64 n] w' fun e w'' => e = .returned (.int .i64 n) ∧ w' = w'') := hide_ (fun n w' => num_any n w')
  go_enter Try.func3, Try.ntmps3
  go_wp2_with fail
  refine (awake_any w).mono ?_
  rintro e w2 ⟨rfl, hB2⟩
  have HL2 := hide_ (hL.out.later hB2)
  have HM2 := hide_ (hM.out.later hB2)
  have HO2 := hide_ (hO.out.later hB2)
  have HB2 := hide_ hB2
  clear hB2 hL hM hO
  go_wp2_with fail
  refine (filled_any a c L gone w2 hcap hcmx HL2).mono ?_
  rintro e w3 ⟨F, g, v, P, rfl, hPn, hT⟩
  have hnl : (L.take 40).length ≤ 40 ∧ (L.take 40).length ≤ L.length ∧ ((L.take 40).length = 40 ∨ (L.take 40).length = L.length) := by rw [List.length_take]; omega
  obtain ⟨n, hn⟩ : ∃ n, (L.take 40).length = n := ⟨_, rfl⟩
  rw [hn] at hT hPn hnl
  have hnb : n ≤ 40 := hnl.1
  have HNl := hide_ hnl
  clear hnl
  have HT := hide_ hT
  clear hT hn HL2
  obtain ⟨av, cv, rfl, hcv, -⟩ := HT.out.ow.slice
  go_wp2_with fail
  refine (save_any w3 w2.heap.size F g _ _ _ (hide_ HT.out.st)).mono ?_
  rintro e w4 ⟨vb, rfl, hO4, hB4⟩
  have HT4 := hide_ (HT.out.later hB4)
  have hWk := wok HT.out.st.skok (by rw [List.length_map]; omega)
  obtain ⟨W, hW⟩ : ∃ W, sv (P.map (·.1)) ((n : Int) + 1) (n : Int) = W := ⟨_, rfl⟩
  rw [hW] at hO4 hWk
  have HWk := hide_ hWk
  have hW0 := hWk.pos
  have hWs := hWk.small
  obtain ⟨gb, cb, yb, rfl, -, hcc, hcmb, -, -, -⟩ := ownS_blk hO4 hW0
  unfold maxLen at hcmb
  have hrow : Row .u8 w4 (some ⟨gb, 0, none⟩) W := by
    obtain ⟨a', c', e, h, -⟩ := BOwn.row hO4
    injection e with e1 _ _
    rw [e1]
    exact h
  have HRow := hide_ hrow
  have HLow : Hid (∀ k, OwB (.slice av P.length cv) P k → k < w4.heap.size) := hide_ (fun k hk => (HT4.out.ow.lies hk).2)
  have HLd := hide_ (load_any (some ⟨gb, 0, none⟩) cb W w4 HRow (fun e => by cases e) (hide_ hWk.bys) hcc (by omega))
  clear hO4 hB4 hWk hW hrow HT
  go_wp2_with fail
  refine HLd.out.mono ?_
  rintro e w5 (⟨fs, m, h, F2, g2, hx, rfl, HS5, HB5⟩ | ⟨er, at_, hx, -, -⟩)
  rotate_left
  · rw [HWk.out.all] at hx; cases hx
  rw [HWk.out.all] at hx
  injection hx with hx
  injection hx with e1 hx
  injection hx with e2 e3
  subst e1 e2 e3
  obtain ⟨w6, hw6⟩ : ∃ wx, wx = w5.alloc (.cells #[.int .i64 0, .int .i64 0] 31) := ⟨_, rfl⟩
  have hB6 : Below w5.heap.size w5 w6 := by rw [hw6]; exact below1 _ _
  have K6 : Hid (Blk w6 w5.heap.size 31 [.int .i64 0, .int .i64 0]) := hide_ (by rw [hw6]; exact Blk.newA w5 _ _)
  have HB56 := hide_ (below_to HB5.out hB6)
  have HT6 := hide_ (HT4.out.later HB56.out)
  have HRow6 := hide_ (HRow.out.later HB56.out)
  have HK : Hid (BkM w2 w6 (.slice av P.length cv) P w4.heap.size F2 g2 (P.map (·.1)) ((n : Int) + 1) (n : Int)) := hide_ ⟨HT6.out.ow, HS5.out.later hB6, HLow.out, HT4.out.bl.size, HB56.out.size, HT6.out.bl⟩
  have HCv : Hid (∀ w', Below w6.heap.size w6 w' → (convert 23 9 (.slice (some ⟨gb, 0, none⟩) W.length cb)).run Try.prog w' = .ok (.string (strOfNums W)) w') := hide_ (fun w' hb => conv_row E23 Try.underlying9 w' _ _ _ W rfl (HRow6.out.later hb))
  have HCl : Hid (∀ w', Below w6.heap.size w6 w' → (fun w' => Below w6.heap.size w6 w' ∧ w'.cell? ⟨w5.heap.size, 0, none⟩ = some (.int .i64 0) ∧ (convert 23 9 (.slice (some ⟨gb, 0, none⟩) W.length cb)).run Try.prog w' = .ok (.string (strOfNums W)) w') w') := hide_ (fun w' hb => ⟨hb, (K6.out.later hb).cell 0, HCv.out w' hb⟩)
  have HLen : Hid (∀ w', Below w6.heap.size w6 w' → Calls Try.prog 11 #[.pointer (some ⟨g2, 0, none⟩)] w' fun e w'' => e = .returned (.int .i64 (P.length : Int)) ∧ w' = w'') := hide_ (fun w' hb => lenS (HK.out.st.later hb) (by rw [List.length_map]))
  have HHi1 : Hid (∀ w', Below w6.heap.size w6 w' → Calls Try.prog 12 #[.pointer (some ⟨g2, 0, none⟩)] w' fun e w'' => e = .returned (.int .i64 (n : Int)) ∧ w' = w'') := hide_ (fun w' hb => highS (HK.out.st.later hb))
  have HHi2 : Hid (∀ w', Below w6.heap.size w6 w' → Calls Try.prog 12 #[.pointer (some ⟨g, 0, none⟩)] w' fun e w'' => e = .returned (.int .i64 (n : Int)) ∧ w' = w'') := hide_ (fun w' hb => highS (HT6.out.st.later hb))
  have HSv : Hid (∀ w', Below w6.heap.size w6 w' → Calls Try.prog 8 #[.pointer (some ⟨g2, 0, none⟩)] w' fun e w'' => ∃ a' c', e = .returned (.slice a' W.length c') ∧ (convert 23 9 (.slice a' W.length c')).run Try.prog w'' = .ok (.string (strOfNums W)) w'' ∧ Below w'.heap.size w' w'') := hide_ (fun w' hb => by
    refine (save_any w' w4.heap.size F2 g2 _ _ _ (hide_ (HK.out.st.later hb))).mono ?_
    rintro e w'' ⟨v', rfl, ho, hb'⟩
    rw [HWk.out.eq] at ho
    obtain ⟨a', c', rfl, hr, -⟩ := BOwn.row ho
    exact ⟨a', c', rfl, conv_row E23 Try.underlying9 w'' _ _ _ W rfl hr, hb'⟩)
  have hpp : ((P.length : Int) != (P.length : Int)) = false := by simp
  have hnn : ((n : Int) != (n : Int)) = false := by simp
  clear hB6 HB56 HT4 HRow HLow HLd HS5 HB5 HT6
  go_upto_region 8 with fail
  rw [← hw6]
  clear hw6
  refine wp_region_last 29 (fun w' => Below w6.heap.size w6 w' ∧ w'.cell? ⟨w5.heap.size, 0, none⟩ = some (.int .i64 0) ∧ (convert 23 9 (.slice (some ⟨gb, 0, none⟩) W.length cb)).run Try.prog w' = .ok (.string (strOfNums W)) w') (by kernel_rfl) (HCl.out _ ((Below.refl w6.heap.size w6).drew)) (fun hHeld => ?_)
  refine wpAnyF_take [29, 22, 19, 15, 10, 8, 5, 2, 1] (by kernel_rfl) (i := 0) (v := ?vp1) rfl (by kernel_rfl) (by kernel_rfl) (by kernel_rfl) (fun _ _ _ h => h) (Or.inl ⟨by kernel_rfl, ?hyp1⟩) hHeld ?restp1
  case hyp1 => intro w' hSw; (try dsimp only at hSw); go_simp; try with_reducible rfl
  simp only [Act.put]
  try dsimp only
  refine wpAnyF_take [29, 22, 19, 15, 10, 8, 5, 2] (by kernel_rfl) (i := 1) (v := ?vp2) rfl (by kernel_rfl) (by kernel_rfl) (by kernel_rfl) (fun _ _ _ h => h) (Or.inl ⟨by kernel_rfl, ?hyp2⟩) hHeld ?restp2
  case hyp2 => intro w' hSw; (try dsimp only at hSw); go_simp; try with_reducible rfl
  simp only [Act.put]
  try dsimp only
  refine wpAnyF_take [29, 22, 19, 15, 10, 8, 5] (by kernel_rfl) (i := 2) (v := ?vp3) rfl (by kernel_rfl) (by kernel_rfl) (by kernel_rfl) (fun _ _ _ h => h) (Or.inl ⟨by kernel_rfl, ?hyp3⟩) hHeld ?restp3
  case hyp3 => intro w' hSw; (try dsimp only at hSw); go_simp; try with_reducible rfl
  simp only [Act.put]
  try dsimp only
  refine wpAnyF_take [29, 22, 19, 15, 10, 8, 5, 4] (by kernel_rfl) (i := 3) (v := ?vp4) rfl (by kernel_rfl) (by kernel_rfl) (by kernel_rfl) (fun _ _ _ h => h) (Or.inl ⟨by kernel_rfl, ?hyp4⟩) hHeld ?restp4
  case hyp4 => intro w' hSw; (try dsimp only at hSw); go_simp; try with_reducible rfl
  simp only [Act.put]
  try dsimp only
  refine wpAnyF_take [29, 22, 19, 15, 10, 8, 5] (by kernel_rfl) (i := 4) (v := ?vp5) rfl (by kernel_rfl) (by kernel_rfl) (by kernel_rfl) (fun _ _ _ h => h) (Or.inl ⟨by kernel_rfl, ?hyp5⟩) hHeld ?restp5
  case hyp5 => intro w' hSw; (try dsimp only at hSw); go_simp; try with_reducible rfl
  simp only [Act.put]
  try dsimp only
  refine wpAnyF_takeC [29, 22, 19, 15, 10, 8] (by kernel_rfl) (i := 5) (v := .int .i64 0) rfl (by kernel_rfl) (by kernel_rfl) (by kernel_rfl) (fun _ _ _ h => h) ⟨by kernel_rfl, _, #[.int .i64 0], fun w' hSw => ⟨by (try dsimp only at hSw); go_simp; try rfl, HNum.out 0 w'⟩⟩ hHeld ?_
  simp only [Act.put]
  try dsimp only
  refine wpAnyF_take [29, 22, 19, 15, 10, 8, 7] (by kernel_rfl) (i := 6) (v := ?vp6) rfl (by kernel_rfl) (by kernel_rfl) (by kernel_rfl) (fun _ _ _ h => h) (Or.inl ⟨by kernel_rfl, ?hyp6⟩) hHeld ?restp6
  case hyp6 => intro w' hSw; (try dsimp only at hSw); go_simp; try with_reducible rfl
  simp only [Act.put]
  try dsimp only
  refine wpAnyF_take [29, 22, 19, 15, 10, 8] (by kernel_rfl) (i := 7) (v := ?vp7) rfl (by kernel_rfl) (by kernel_rfl) (by kernel_rfl) (fun _ _ _ h => h) (Or.inl ⟨by kernel_rfl, ?hyp7⟩) hHeld ?restp7
  case hyp7 => intro w' hSw; (try dsimp only at hSw); go_simp; try with_reducible rfl
  simp only [Act.put]
  try dsimp only
  refine wpAnyF_take [29, 22, 19, 15, 10] (by kernel_rfl) (i := 8) (v := ?vp8) rfl (by kernel_rfl) (by kernel_rfl) (by kernel_rfl) (fun _ _ _ h => h) (Or.inl ⟨by kernel_rfl, ?hyp8⟩) hHeld ?restp8
  case hyp8 => intro w' hSw; (try dsimp only at hSw); go_simp; try with_reducible rfl
  simp only [Act.put]
  try dsimp only
  refine wpAnyF_take [29, 22, 19, 15, 10] (by kernel_rfl) (i := 9) (v := ?vp9) rfl (by kernel_rfl) (by kernel_rfl) (by kernel_rfl) (fun _ _ _ h => h) (Or.inl ⟨by kernel_rfl, ?hyp9⟩) hHeld ?restp9
  case hyp9 => intro w' hSw; (try dsimp only at hSw); go_simp; try with_reducible rfl
  simp only [Act.put]
  try dsimp only
  refine wpAnyF_takeC [29, 22, 19, 15] (by kernel_rfl) (i := 10) (v := .int .i64 (P.length : Int)) rfl (by kernel_rfl) (by kernel_rfl) (by kernel_rfl) (fun _ _ _ h => h) ⟨by kernel_rfl, _, #[.pointer (some ⟨g2, 0, none⟩)], fun w' hSw => ⟨by (try dsimp only at hSw); go_simp; try rfl, HLen.out w' (And.left hSw)⟩⟩ hHeld ?_
  simp only [Act.put]
  try dsimp only
  refine wpAnyF_take [29, 22, 19, 15, 14, 13, 12] (by kernel_rfl) (i := 11) (v := ?vp10) rfl (by kernel_rfl) (by kernel_rfl) (by kernel_rfl) (fun _ _ _ h => h) (Or.inl ⟨by kernel_rfl, ?hyp10⟩) hHeld ?restp10
  case hyp10 => intro w' hSw; (try dsimp only at hSw); go_simp; try with_reducible rfl
  simp only [Act.put]
  try dsimp only
  refine wpAnyF_take [29, 22, 19, 15, 14, 13] (by kernel_rfl) (i := 12) (v := ?vp11) rfl (by kernel_rfl) (by kernel_rfl) (by kernel_rfl) (fun _ _ _ h => h) (Or.inl ⟨by kernel_rfl, ?hyp11⟩) hHeld ?restp11
  case hyp11 => intro w' hSw; (try dsimp only at hSw); go_simp; try with_reducible rfl
  simp only [Act.put]
  try dsimp only
  refine wpAnyF_take [29, 22, 19, 15, 14] (by kernel_rfl) (i := 13) (v := ?vp12) rfl (by kernel_rfl) (by kernel_rfl) (by kernel_rfl) (fun _ _ _ h => h) (Or.inl ⟨by kernel_rfl, ?hyp12⟩) hHeld ?restp12
  case hyp12 => intro w' hSw; (try dsimp only at hSw); go_simp; try with_reducible rfl
  simp only [Act.put]
  try dsimp only
  refine wpAnyF_take [29, 22, 19, 15] (by kernel_rfl) (i := 14) (v := ?vp13) rfl (by kernel_rfl) (by kernel_rfl) (by kernel_rfl) (fun _ _ _ h => h) (Or.inl ⟨by kernel_rfl, ?hyp13⟩) hHeld ?restp13
  case hyp13 => intro w' hSw; (try dsimp only at hSw); go_simp; try with_reducible rfl
  simp only [Act.put]
  try dsimp only
  refine wpAnyF_take [29, 22, 19] (by kernel_rfl) (i := 15) (v := ?vp14) rfl (by kernel_rfl) (by kernel_rfl) (by kernel_rfl) (fun _ _ _ h => h) (Or.inl ⟨by kernel_rfl, ?hyp14⟩) hHeld ?restp14
  case hyp14 => intro w' hSw; (try dsimp only at hSw); go_simp; try with_reducible rfl
  simp only [Act.put]
  try dsimp only
  refine wpAnyF_take [29, 22, 19, 17] (by kernel_rfl) (i := 16) (v := ?vp15) rfl (by kernel_rfl) (by kernel_rfl) (by kernel_rfl) (fun _ _ _ h => h) (Or.inl ⟨by kernel_rfl, ?hyp15⟩) hHeld ?restp15
  case hyp15 => intro w' hSw; (try dsimp only at hSw); go_simp; try with_reducible rfl
  simp only [Act.put]
  try dsimp only
  refine wpAnyF_takeC [29, 22, 19] (by kernel_rfl) (i := 17) (v := .int .i64 (n : Int)) rfl (by kernel_rfl) (by kernel_rfl) (by kernel_rfl) (fun _ _ _ h => h) ⟨by kernel_rfl, _, #[.pointer (some ⟨g2, 0, none⟩)], fun w' hSw => ⟨by (try dsimp only at hSw); go_simp; try rfl, HHi1.out w' (And.left hSw)⟩⟩ hHeld ?_
  simp only [Act.put]
  try dsimp only
  refine wpAnyF_take [29, 22, 19] (by kernel_rfl) (i := 18) (v := ?vp16) rfl (by kernel_rfl) (by kernel_rfl) (by kernel_rfl) (fun _ _ _ h => h) (Or.inl ⟨by kernel_rfl, ?hyp16⟩) hHeld ?restp16
  case hyp16 => intro w' hSw; (try dsimp only at hSw); go_simp; try with_reducible rfl
  simp only [Act.put]
  try dsimp only
  refine wpAnyF_takeC [29, 22] (by kernel_rfl) (i := 19) (v := .int .i64 (n : Int)) rfl (by kernel_rfl) (by kernel_rfl) (by kernel_rfl) (fun _ _ _ h => h) ⟨by kernel_rfl, _, #[.pointer (some ⟨g, 0, none⟩)], fun w' hSw => ⟨by (try dsimp only at hSw); go_simp; try rfl, HHi2.out w' (And.left hSw)⟩⟩ hHeld ?_
  simp only [Act.put]
  try dsimp only
  refine wpAnyF_take [29, 22, 21] (by kernel_rfl) (i := 20) (v := ?vp17) rfl (by kernel_rfl) (by kernel_rfl) (by kernel_rfl) (fun _ _ _ h => h) (Or.inl ⟨by kernel_rfl, ?hyp17⟩) hHeld ?restp17
  case hyp17 => intro w' hSw; (try dsimp only at hSw); go_simp; try with_reducible rfl
  simp only [Act.put]
  try dsimp only
  refine wpAnyF_take [29, 22] (by kernel_rfl) (i := 21) (v := ?vp18) rfl (by kernel_rfl) (by kernel_rfl) (by kernel_rfl) (fun _ _ _ h => h) (Or.inl ⟨by kernel_rfl, ?hyp18⟩) hHeld ?restp18
  case hyp18 => intro w' hSw; (try dsimp only at hSw); go_simp; try with_reducible rfl
  simp only [Act.put]
  try dsimp only
  refine wpAnyF_take [29] (by kernel_rfl) (i := 22) (v := ?vp19) rfl (by kernel_rfl) (by kernel_rfl) (by kernel_rfl) (fun _ _ _ h => h) (Or.inl ⟨by kernel_rfl, ?hyp19⟩) hHeld ?restp19
  case hyp19 => intro w' hSw; (try dsimp only at hSw); go_simp; try with_reducible rfl
  simp only [Act.put]
  try dsimp only
  refine wpAnyF_take [29, 28, 25, 24] (by kernel_rfl) (i := 23) (v := ?vp20) rfl (by kernel_rfl) (by kernel_rfl) (by kernel_rfl) (fun _ _ _ h => h) (Or.inl ⟨by kernel_rfl, ?hyp20⟩) hHeld ?restp20
  case hyp20 => intro w' hSw; (try dsimp only at hSw); go_simp; try with_reducible rfl
  simp only [Act.put]
  try dsimp only
  refine wpAnyF_take [29, 28, 27] (by kernel_rfl) (i := 26) (v := ?vp21) rfl (by kernel_rfl) (by kernel_rfl) (by kernel_rfl) (fun _ _ _ h => h) (Or.inl ⟨by kernel_rfl, ?hyp21⟩) hHeld ?restp21
  case hyp21 => intro w' hSw; (try dsimp only at hSw); go_simp; try with_reducible rfl
  simp only [Act.put]
  try dsimp only
  refine wpAnyF_take [29, 28] (by kernel_rfl) (i := 27) (v := ?vp22) rfl (by kernel_rfl) (by kernel_rfl) (by kernel_rfl) (fun _ _ _ h => h) (Or.inl ⟨by kernel_rfl, ?hyp22⟩) hHeld ?restp22
  case hyp22 => intro w' hSw; (try dsimp only at hSw); go_simp; try with_reducible rfl
  simp only [Act.put]
  try dsimp only
  refine wpAnyF_ready (rs := [24]) (by kernel_rfl) (by simp) ?_
  refine AllReadyF.cons rfl (fun K hK => ?_) AllReadyF.nil
  go_simp
  refine (HSv.out _ ((Below.refl w6.heap.size w6).drew)).mono ?_
  rintro e w7 ⟨a', c', rfl, hcv7, hB7⟩
  have hBs : Below w6.heap.size w6 w7 := below_to ((Below.refl w6.heap.size w6).drew) hB7
  clear hB7
  dsimp only
  refine hK.out _ _ (HCl.out _ hBs) (fun hHeld => ?_)
  clear hK K
  refine wpAnyF_ready (rs := [25]) (by kernel_rfl) (by simp) ?_
  refine AllReadyF.cons rfl (fun K hK => ?_) AllReadyF.nil
  go_simp
  refine hK.out _ _ (HCl.out _ hBs) (fun hHeld => ?_)
  clear hK K
  refine wpAnyF_take [29] (by kernel_rfl) (i := 28) (v := ?vp23) rfl (by kernel_rfl) (by kernel_rfl) (by kernel_rfl) (fun _ _ _ h => h) (Or.inl ⟨by kernel_rfl, ?hyp23⟩) hHeld ?restp23
  case hyp23 => intro w' hSw; (try dsimp only at hSw); go_simp; try with_reducible rfl
  simp only [Act.put]
  try dsimp only
  refine wpAnyF_ready (rs := [29]) (by kernel_rfl) (by simp) ?_
  refine AllReadyF.last rfl (fun K hK => ?_)
  go_simp
  refine hK.out _ _ ?_
  clear hK K
  refine wpAnyF_done (by kernel_rfl) ?_ _
  have HBs := hide_ hBs
  have HK7 := hide_ (HK.out.later hBs)
  have HRow7 := hide_ (HRow6.out.later hBs)
  clear hBs hcv7 hpp hnn HCv HCl HLen HHi1 HHi2 HSv HK HRow6 K6
  have hrl := restP_in (n := at_) (m := (W.length : Int)) (by omega)
  have HRe := hide_ (rest_any at_ (W.length : Int) w7 (by omega) (by omega))
  obtain ⟨k, hk⟩ : ∃ k : Nat, restP at_ (W.length : Int) = (k : Int) := ⟨(restP at_ (W.length : Int)).toNat, by omega⟩
  rw [hk] at HRe hrl
  have hkl : k < W.length := by omega
  have hkc : (k : Int) ≤ cb := by omega
  have htk : (W.take k).length = k := by rw [List.length_take]; omega
  have HLk := hide_ (load_any (some ⟨gb, 0, none⟩) cb (W.take k) w7 (hide_ (HRow7.out.take k)) (fun e => by cases e) (hide_ (fun x hx => HWk.out.bys x (List.mem_of_mem_take hx))) (by omega) (by omega))
  rw [htk] at HLk
  have hck := HWk.out.cut k hkl
  clear hk hrl htk
  go_wp2_with (go_at_call 13; refine HRe.out.mono ?_; rintro e w' ⟨rfl, rfl⟩)
  refine HLk.out.mono ?_
  rintro e w8 (⟨fs, m, h, F3, g3, hx, -, -, -⟩ | ⟨er, at2, hx, rfl, HB8⟩)
  · rw [hck] at hx; cases hx
  rw [hck] at hx
  injection hx with hx
  injection hx with e1 e2
  subst e1 e2
  obtain ⟨w9, hw9⟩ : ∃ wx, wx = w8.alloc (.cells #[.int .i64 20, .int .i64 (k : Int)] 31) := ⟨_, rfl⟩
  have hB9 : Below w8.heap.size w8 w9 := by rw [hw9]; exact below1 _ _
  have k9 : Blk w9 w8.heap.size 31 [.int .i64 20, .int .i64 (k : Int)] := by rw [hw9]; exact Blk.newA w8 _ _
  have f0 := k9.cell 0; have f1 := k9.cell 1
  simp at f0 f1
  have HK9 := hide_ ((HK7.out.later HB8.out).later hB9)
  have HRow9 := hide_ ((HRow7.out.later HB8.out).later hB9)
  have hkk : ((k : Int) != (k : Int)) = false := by simp
  clear hck HLk HRe hB9 k9 HB8 HK7 HRow7 HBs
  go_upto_region 12 with fail
  rw [← hw9]
  clear hw9
  go_upto_if 99 with (go_at_call 10; refine (HNum.out _ _).mono ?_; rintro e w' ⟨rfl, rfl⟩)
  clear f0 f1 hkk hkc hkl
  go_cut [20, 21] from 99 to 118 (fun x20 x21 wc => ∃ wd, wd = wc ∧ Hid (BkM w2 wd (.slice av P.length cv) P w4.heap.size F2 g2 (P.map (·.1)) ((n : Int) + 1) (n : Int)))
  case first =>
    by_cases hm0 : 0 < M.length
    · have hd : decide (0 < (M.length : Int)) = true := decide_eq_true (by omega)
      obtain ⟨a1, c1, w10, a2, c2, w11, r1, r2, hr2, hn2, hl2, hx2, hB11⟩ := two_apps w9 (some ⟨gb, 0, none⟩) am cb cm W M hW0 hm0 hWs hMs HRow9.out (HM2.out.later HK9.out.bl)
      have hby : Bys (W ++ M) := fun x hx => (List.mem_append.1 hx).elim (HWk.out.bys x) (hMb.out x)
      have hla := load_any a2 c2 (W ++ M) w11 (hide_ hr2) hn2 (hide_ hby) hl2 hx2
      rw [List.length_append] at hla
      have hla := hide_ hla
      have hmo := HWk.out.more M hm0
      have HR1 := hide_ r1
      have HR2 := hide_ r2
      have HB11 := hide_ hB11
      clear r1 r2 hr2 hn2 hl2 hx2 hby hB11
      go_wp2_with (first | (at_builtin; refine wpList_append_run rfl (.const (.slice none 0 0)) (.tmp 101) 23 23 rfl rfl rfl HR1.out ?_; clear HR1) | (at_builtin; refine wpList_append_run rfl (.tmp 102) (.tmp 103) 23 23 rfl rfl rfl HR2.out ?_; clear HR2) | fail)
      refine hla.out.mono ?_
      rintro e w12 (⟨fs, m, h, F3, g3, hx, -, -, -⟩ | ⟨er, at2, hx, rfl, HB12⟩)
      · rw [hmo] at hx; cases hx
      rw [hmo] at hx
      injection hx with hx
      injection hx with e1 e2
      subst e1 e2
      obtain ⟨w13, hw13⟩ : ∃ wx, wx = w12.alloc (.cells #[.int .i64 124, .int .i64 (W.length : Int)] 31) := ⟨_, rfl⟩
      have hB13 : Below w12.heap.size w12 w13 := by rw [hw13]; exact below1 _ _
      have k13 : Blk w13 w12.heap.size 31 [.int .i64 124, .int .i64 (W.length : Int)] := by rw [hw13]; exact Blk.newA w12 _ _
      have f0 := k13.cell 0; have f1 := k13.cell 1
      simp at f0 f1
      have HK13 := hide_ (((HK9.out.later HB11.out).later HB12.out).later hB13)
      have hww : ((W.length : Int) != (W.length : Int)) = false := by simp
      clear hmo hla hB13 k13 HB12 HB11
      go_upto_region 16 with fail
      rw [← hw13]
      clear hw13
      go_wp2_with (go_at_call 10; refine (HNum.out _ _).mono ?_; rintro e w' ⟨rfl, rfl⟩)
      go_meet
      case rel => exact ⟨_, rfl, HK13⟩
    · have hd : decide (0 < (M.length : Int)) = false := decide_eq_false (by omega)
      go_wp2_with fail
      go_meet
      case rel => exact ⟨_, rfl, HK9⟩
  case rest =>
  obtain ⟨wd, rfl, HKd⟩ := hcut
  clear HK9 HRow9
  have hp1 := i64w ((P.length : Int) - 1) (by omega)
  go_wp2_with fail
  go_loopw [22] (fun x22 wr => ∃ (j : Nat), j ≤ P.length ∧ x22 = .int .i64 ((j : Int) - 1) ∧ Hid (BkM w2 wr (.slice av P.length cv) P w4.heap.size F2 g2 ((P.map (·.1)).take j) ((n : Int) + 1) (n : Int))) (fun x22 _ => (intOf x22 + 1).toNat)
  case atStart => exact ⟨P.length, Nat.le_refl _, rfl, by rw [List.take_of_length_le (by simp)]; exact HKd⟩
  case round =>
    clear HKd hp1
    obtain ⟨jj, hjj, rfl, HK⟩ := hrel
    generalize wr = wk at *
    cases jj with
    | zero =>
      have e : (((0 : Nat) : Int) - 1) = -1 := rfl
      rw [e]
      have HKz : Hid (BkM w2 wk (.slice av P.length cv) P w4.heap.size F2 g2 [] ((n : Int) + 1) (n : Int)) := hide_ (by have h := HK.out; rw [List.take_zero] at h; exact h)
      clear HK e
      go_wp2_with fail
      go_loopw [25] (fun x25 wr => ∃ (i : Nat) (F3 : Nat → Prop) (h3 : Int), i ≤ n + 1 ∧ x25 = .int .i64 (i : Int) ∧ Hid (BkM w2 wr (.slice av P.length cv) P w4.heap.size F3 g2 (List.replicate i fE) ((n : Int) + 1) h3)) (fun x25 _ => n + 1 - (intOf x25).toNat)
      case atStart => exact ⟨0, F2, _, Nat.zero_le _, rfl, HKz⟩
      case round =>
        clear HKz
        obtain ⟨i, F3, h3, hi, rfl, HK3⟩ := hrel
        generalize wr = wq at *
        have hnl := HNl.out
        by_cases hgo : i ≤ n
        · have hd1 : decide ((i : Int) ≤ (L.length : Int)) = true := decide_eq_true (by omega)
          have hd2 : decide ((i : Int) ≤ 40) = true := decide_eq_true (by omega)
          have HPu := hide_ (push_any wq w4.heap.size F3 g2 (List.replicate i fE) ((n : Int) + 1) h3 fE none 0 (hide_ HK3.out.st) (hide_ (fra_nil wq fE rfl)) HK3.out.bw)
          have hii := i64w ((i : Int) + 1) (by omega)
          go_wp2_with fail
          refine HPu.out.mono ?_
          rintro e w10 (⟨hb, -, -⟩ | ⟨-, hb, -, -⟩ | ⟨-, -, rfl, hto⟩)
          · rw [List.length_replicate] at hb; omega
          · exact absurd hb (by decide)
          obtain ⟨F4, hS4, hU4, -⟩ := hto
          rw [rep_app] at hS4
          have HK4 := hide_ (HK3.out.upd hU4 hS4)
          clear hS4 hU4 HK3 HPu
          go_wp2_with (go_at_call 10; refine (HNum.out _ _).mono ?_; rintro e w' ⟨rfl, rfl⟩)
          go_roundw
          case rel => exact ⟨i + 1, F4, _, by omega, by go_num, HK4⟩
          case measure => simp [intOf]; omega
        · obtain rfl : i = n + 1 := by omega
          have e : ((n + 1 : Nat) : Int) = (n : Int) + 1 := by omega
          rw [e]
          clear e
          go_upto_region 25 with fail
          go_cut [156] from 149 to 156 (fun x156 wc => x156 = .bool false ∧ wq = wc)
          case first =>
            by_cases h1 : (n : Int) + 1 ≤ (L.length : Int)
            · have hd1 : decide ((n : Int) + 1 ≤ (L.length : Int)) = true := decide_eq_true h1
              have hd2 : decide ((n : Int) + 1 ≤ 40) = false := decide_eq_false (by omega)
              clear hgo
              go_wp2_with fail
              go_meet
              case rel => exact ⟨rfl, rfl⟩
            · have hd1 : decide ((n : Int) + 1 ≤ (L.length : Int)) = false := decide_eq_false h1
              clear hgo
              go_wp2_with fail
              go_meet
              case rel => exact ⟨rfl, rfl⟩
          case rest =>
          obtain ⟨rfl, rfl⟩ := hcut
          clear hgo
          have HPu := hide_ (push_any wq w4.heap.size F3 g2 (List.replicate (n + 1) fE) ((n : Int) + 1) h3 fr0 none 0 (hide_ HK3.out.st) (hide_ (fra_nil wq fr0 rfl)) HK3.out.bw)
          go_wp2_with fail
          refine HPu.out.mono ?_
          rintro e w10 (⟨-, rfl, hto⟩ | ⟨hb, -, -, -⟩ | ⟨hb, -, -, -⟩)
          rotate_left
          · rw [List.length_replicate] at hb; omega
          · rw [List.length_replicate] at hb; omega
          obtain ⟨F4, hS4, hU4, -⟩ := hto
          have HB10 := hide_ ((HK3.out.upd hU4 hS4).bl)
          clear hS4 hU4 HK3 HPu
          go_upto_if 171 with (go_at_call 10; refine (HNum.out _ _).mono ?_; rintro e w' ⟨rfl, rfl⟩)
          go_cut [4] from 171 to 173 (fun x4 wc => w10 = wc ∧ ∃ (O' : List Int), x4 = .slice ao O'.length co ∧ O'.length ≤ co ∧ Hid (Bys O') ∧ Hid (Row .u8 w2 ao O'))
          case first =>
            by_cases ho : O.length ≤ 3000
            · have hd : decide (3000 < (O.length : Int)) = false := decide_eq_false (by omega)
              go_wp2_with fail
              go_meet
              case rel => exact ⟨rfl, O, rfl, hOc, hOb, HO2⟩
            · have hd : decide (3000 < (O.length : Int)) = true := decide_eq_true (by omega)
              have hc3 : 3000 ≤ co := by omega
              have ho3 : 3000 ≤ O.length := by omega
              go_wp2_with fail
              go_meet
              case rel => exact ⟨rfl, O.take 3000, by rw [List.length_take, Nat.min_eq_left ho3], by rw [List.length_take, Nat.min_eq_left ho3]; exact hc3, hide_ (fun x hx => hOb.out x (List.mem_of_mem_take hx)), hide_ (HO2.out.take 3000)⟩
          case rest =>
          obtain ⟨rfl, O', rfl, hOl, HOb, HOr⟩ := hcut
          have HRo := hide_ (HOr.out.later HB10.out)
          have HLo := hide_ (load_any ao co O' w10 HRo hOn HOb hOl hOx)
          go_wp2_with fail
          refine HLo.out.mono ?_
          rintro e w11 (⟨fs, m, h, F5, g5, hx, rfl, HS11, HB11⟩ | ⟨er, at2, hx, rfl, HB11⟩)
          · obtain ⟨-, hsv⟩ := ldB HOb.out hx
            obtain ⟨w12, hw12⟩ : ∃ wx, wx = w11.alloc (.cells #[.int .i64 0, .int .i64 0] 31) := ⟨_, rfl⟩
            have hB12 : Below w11.heap.size w11 w12 := by rw [hw12]; exact below1 _ _
            have K12 : Hid (Blk w12 w11.heap.size 31 [.int .i64 0, .int .i64 0]) := hide_ (by rw [hw12]; exact Blk.newA w11 _ _)
            have HR12 := hide_ ((HRo.out.later HB11.out).later hB12)
            have HS12 := hide_ (HS11.out.later hB12)
            have HB12 := hide_ (below_to (below_to HB10.out HB11.out) hB12)
            have HCv : Hid (∀ w', Below w12.heap.size w12 w' → (convert 23 9 (.slice ao O'.length co)).run Try.prog w' = .ok (.string (strOfNums O')) w') := hide_ (fun w' hb => conv_row E23 Try.underlying9 w' _ _ _ O' rfl (HR12.out.later hb))
            have HCl : Hid (∀ w', Below w12.heap.size w12 w' → (fun w' => Below w12.heap.size w12 w' ∧ w'.cell? ⟨w11.heap.size, 0, none⟩ = some (.int .i64 0) ∧ (convert 23 9 (.slice ao O'.length co)).run Try.prog w' = .ok (.string (strOfNums O')) w') w') := hide_ (fun w' hb => ⟨hb, (K12.out.later hb).cell 0, HCv.out w' hb⟩)
            have HSv : Hid (∀ w', Below w12.heap.size w12 w' → Calls Try.prog 8 #[.pointer (some ⟨g5, 0, none⟩)] w' fun e w'' => ∃ a' c', e = .returned (.slice a' O'.length c') ∧ (convert 23 9 (.slice a' O'.length c')).run Try.prog w'' = .ok (.string (strOfNums O')) w'' ∧ Below w'.heap.size w' w'') := hide_ (fun w' hb => by
              refine (save_any w' w10.heap.size F5 g5 _ _ _ (hide_ (HS12.out.later hb))).mono ?_
              rintro e w'' ⟨v', rfl, ho, hb'⟩
              rw [hsv] at ho
              obtain ⟨a', c', rfl, hr, -⟩ := BOwn.row ho
              exact ⟨a', c', rfl, conv_row E23 Try.underlying9 w'' _ _ _ O' rfl hr, hb'⟩)
            clear hB12 HB11 HS11 HRo HLo hx
            go_upto_region 34 with fail
            rw [← hw12]
            clear hw12
            refine wp_region_last 26 (fun w' => Below w12.heap.size w12 w' ∧ w'.cell? ⟨w11.heap.size, 0, none⟩ = some (.int .i64 0) ∧ (convert 23 9 (.slice ao O'.length co)).run Try.prog w' = .ok (.string (strOfNums O')) w') (by kernel_rfl) (HCl.out _ ((Below.refl w12.heap.size w12).drew)) (fun hHeld => ?_)
            refine wpAnyF_take [26] (by kernel_rfl) (i := 0) (v := ?vq1) rfl (by kernel_rfl) (by kernel_rfl) (by kernel_rfl) (fun _ _ _ h => h) (Or.inl ⟨by kernel_rfl, ?hyq1⟩) hHeld ?restq1
            case hyq1 => intro w' hSw; (try dsimp only at hSw); go_simp; try with_reducible rfl
            simp only [Act.put]
            try dsimp only
            refine wpAnyF_take [26] (by kernel_rfl) (i := 1) (v := ?vq2) rfl (by kernel_rfl) (by kernel_rfl) (by kernel_rfl) (fun _ _ _ h => h) (Or.inl ⟨by kernel_rfl, ?hyq2⟩) hHeld ?restq2
            case hyq2 => intro w' hSw; (try dsimp only at hSw); go_simp; try with_reducible rfl
            simp only [Act.put]
            try dsimp only
            refine wpAnyF_takeC [26] (by kernel_rfl) (i := 2) (v := .int .i64 0) rfl (by kernel_rfl) (by kernel_rfl) (by kernel_rfl) (fun _ _ _ h => h) ⟨by kernel_rfl, _, #[.int .i64 0], fun w' hSw => ⟨by (try dsimp only at hSw); go_simp; try rfl, HNum.out 0 w'⟩⟩ hHeld ?_
            simp only [Act.put]
            try dsimp only
            refine wpAnyF_take [26] (by kernel_rfl) (i := 3) (v := ?vq3) rfl (by kernel_rfl) (by kernel_rfl) (by kernel_rfl) (fun _ _ _ h => h) (Or.inl ⟨by kernel_rfl, ?hyq3⟩) hHeld ?restq3
            case hyq3 => intro w' hSw; (try dsimp only at hSw); go_simp; try with_reducible rfl
            simp only [Act.put]
            try dsimp only
            refine wpAnyF_take [26] (by kernel_rfl) (i := 4) (v := ?vq4) rfl (by kernel_rfl) (by kernel_rfl) (by kernel_rfl) (fun _ _ _ h => h) (Or.inl ⟨by kernel_rfl, ?hyq4⟩) hHeld ?restq4
            case hyq4 => intro w' hSw; (try dsimp only at hSw); go_simp; try with_reducible rfl
            simp only [Act.put]
            try dsimp only
            refine wpAnyF_take [26] (by kernel_rfl) (i := 5) (v := undef) rfl (by kernel_rfl) (by kernel_rfl) (by kernel_rfl) (fun _ _ _ h => h) (Or.inr ⟨by kernel_rfl, rfl⟩) hHeld ?_
            simp only [Act.put]
            try dsimp only
            refine wpAnyF_take [26] (by kernel_rfl) (i := 6) (v := undef) rfl (by kernel_rfl) (by kernel_rfl) (by kernel_rfl) (fun _ _ _ h => h) (Or.inr ⟨by kernel_rfl, rfl⟩) hHeld ?_
            simp only [Act.put]
            try dsimp only
            refine wpAnyF_take [26] (by kernel_rfl) (i := 7) (v := ?vq5) rfl (by kernel_rfl) (by kernel_rfl) (by kernel_rfl) (fun _ _ _ h => h) (Or.inl ⟨by kernel_rfl, ?hyq5⟩) hHeld ?restq5
            case hyq5 => intro w' hSw; (try dsimp only at hSw); go_simp; try with_reducible rfl
            simp only [Act.put]
            try dsimp only
            refine wpAnyF_take [26] (by kernel_rfl) (i := 8) (v := ?vq6) rfl (by kernel_rfl) (by kernel_rfl) (by kernel_rfl) (fun _ _ _ h => h) (Or.inl ⟨by kernel_rfl, ?hyq6⟩) hHeld ?restq6
            case hyq6 => intro w' hSw; (try dsimp only at hSw); go_simp; try with_reducible rfl
            simp only [Act.put]
            try dsimp only
            refine wpAnyF_take [26] (by kernel_rfl) (i := 9) (v := ?vq7) rfl (by kernel_rfl) (by kernel_rfl) (by kernel_rfl) (fun _ _ _ h => h) (Or.inl ⟨by kernel_rfl, ?hyq7⟩) hHeld ?restq7
            case hyq7 => intro w' hSw; (try dsimp only at hSw); go_simp; try with_reducible rfl
            simp only [Act.put]
            try dsimp only
            refine wpAnyF_take [26] (by kernel_rfl) (i := 10) (v := ?vq8) rfl (by kernel_rfl) (by kernel_rfl) (by kernel_rfl) (fun _ _ _ h => h) (Or.inl ⟨by kernel_rfl, ?hyq8⟩) hHeld ?restq8
            case hyq8 => intro w' hSw; (try dsimp only at hSw); go_simp; try with_reducible rfl
            simp only [Act.put]
            try dsimp only
            refine wpAnyF_takeC [26] (by kernel_rfl) (i := 11) (v := .int .i64 0) rfl (by kernel_rfl) (by kernel_rfl) (by kernel_rfl) (fun _ _ _ h => h) ⟨by kernel_rfl, _, #[.int .i64 0], fun w' hSw => ⟨by (try dsimp only at hSw); go_simp; try rfl, HNum.out 0 w'⟩⟩ hHeld ?_
            simp only [Act.put]
            try dsimp only
            refine wpAnyF_take [26] (by kernel_rfl) (i := 12) (v := ?vq9) rfl (by kernel_rfl) (by kernel_rfl) (by kernel_rfl) (fun _ _ _ h => h) (Or.inl ⟨by kernel_rfl, ?hyq9⟩) hHeld ?restq9
            case hyq9 => intro w' hSw; (try dsimp only at hSw); go_simp; try with_reducible rfl
            simp only [Act.put]
            try dsimp only
            refine wpAnyF_take [26] (by kernel_rfl) (i := 13) (v := ?vq10) rfl (by kernel_rfl) (by kernel_rfl) (by kernel_rfl) (fun _ _ _ h => h) (Or.inl ⟨by kernel_rfl, ?hyq10⟩) hHeld ?restq10
            case hyq10 => intro w' hSw; (try dsimp only at hSw); go_simp; try with_reducible rfl
            simp only [Act.put]
            try dsimp only
            refine wpAnyF_take [26] (by kernel_rfl) (i := 14) (v := ?vq11) rfl (by kernel_rfl) (by kernel_rfl) (by kernel_rfl) (fun _ _ _ h => h) (Or.inl ⟨by kernel_rfl, ?hyq11⟩) hHeld ?restq11
            case hyq11 => intro w' hSw; (try dsimp only at hSw); go_simp; try with_reducible rfl
            simp only [Act.put]
            try dsimp only
            refine wpAnyF_take [26] (by kernel_rfl) (i := 15) (v := ?vq12) rfl (by kernel_rfl) (by kernel_rfl) (by kernel_rfl) (fun _ _ _ h => h) (Or.inl ⟨by kernel_rfl, ?hyq12⟩) hHeld ?restq12
            case hyq12 => intro w' hSw; (try dsimp only at hSw); go_simp; try with_reducible rfl
            simp only [Act.put]
            try dsimp only
            refine wpAnyF_take [26] (by kernel_rfl) (i := 16) (v := ?vq13) rfl (by kernel_rfl) (by kernel_rfl) (by kernel_rfl) (fun _ _ _ h => h) (Or.inl ⟨by kernel_rfl, ?hyq13⟩) hHeld ?restq13
            case hyq13 => intro w' hSw; (try dsimp only at hSw); go_simp; try with_reducible rfl
            simp only [Act.put]
            try dsimp only
            refine wpAnyF_take [26] (by kernel_rfl) (i := 17) (v := ?vq14) rfl (by kernel_rfl) (by kernel_rfl) (by kernel_rfl) (fun _ _ _ h => h) (Or.inl ⟨by kernel_rfl, ?hyq14⟩) hHeld ?restq14
            case hyq14 => intro w' hSw; (try dsimp only at hSw); go_simp; try with_reducible rfl
            simp only [Act.put]
            try dsimp only
            refine wpAnyF_take [26] (by kernel_rfl) (i := 18) (v := ?vq15) rfl (by kernel_rfl) (by kernel_rfl) (by kernel_rfl) (fun _ _ _ h => h) (Or.inl ⟨by kernel_rfl, ?hyq15⟩) hHeld ?restq15
            case hyq15 => intro w' hSw; (try dsimp only at hSw); go_simp; try with_reducible rfl
            simp only [Act.put]
            try dsimp only
            refine wpAnyF_take [26] (by kernel_rfl) (i := 21) (v := ?vq16) rfl (by kernel_rfl) (by kernel_rfl) (by kernel_rfl) (fun _ _ _ h => h) (Or.inl ⟨by kernel_rfl, ?hyq16⟩) hHeld ?restq16
            case hyq16 => intro w' hSw; (try dsimp only at hSw); go_simp; try with_reducible rfl
            simp only [Act.put]
            try dsimp only
            refine wpAnyF_take [26] (by kernel_rfl) (i := 22) (v := ?vq17) rfl (by kernel_rfl) (by kernel_rfl) (by kernel_rfl) (fun _ _ _ h => h) (Or.inl ⟨by kernel_rfl, ?hyq17⟩) hHeld ?restq17
            case hyq17 => intro w' hSw; (try dsimp only at hSw); go_simp; try with_reducible rfl
            simp only [Act.put]
            try dsimp only
            refine wpAnyF_ready (rs := [19]) (by kernel_rfl) (by simp) ?_
            refine AllReadyF.cons rfl (fun K hK => ?_) AllReadyF.nil
            go_simp
            refine (HSv.out _ ((Below.refl w12.heap.size w12).drew)).mono ?_
            rintro e w13 ⟨a', c', rfl, hcv7, hB7⟩
            have hBs : Below w12.heap.size w12 w13 := below_to ((Below.refl w12.heap.size w12).drew) hB7
            clear hB7
            dsimp only
            refine hK.out _ _ (HCl.out _ hBs) (fun hHeld => ?_)
            clear hK K
            refine wpAnyF_ready (rs := [20]) (by kernel_rfl) (by simp) ?_
            refine AllReadyF.cons rfl (fun K hK => ?_) AllReadyF.nil
            go_simp
            refine hK.out _ _ (HCl.out _ hBs) (fun hHeld => ?_)
            clear hK K
            refine wpAnyF_take [26] (by kernel_rfl) (i := 23) (v := ?vq18) rfl (by kernel_rfl) (by kernel_rfl) (by kernel_rfl) (fun _ _ _ h => h) (Or.inl ⟨by kernel_rfl, ?hyq18⟩) hHeld ?restq18
            case hyq18 => intro w' hSw; (try dsimp only at hSw); go_simp; try with_reducible rfl
            simp only [Act.put]
            try dsimp only
            refine wpAnyF_take [26] (by kernel_rfl) (i := 24) (v := ?vq19) rfl (by kernel_rfl) (by kernel_rfl) (by kernel_rfl) (fun _ _ _ h => h) (Or.inl ⟨by kernel_rfl, ?hyq19⟩) hHeld ?restq19
            case hyq19 => intro w' hSw; (try dsimp only at hSw); go_simp; try with_reducible rfl
            simp only [Act.put]
            try dsimp only
            refine wpAnyF_take [26] (by kernel_rfl) (i := 25) (v := ?vq20) rfl (by kernel_rfl) (by kernel_rfl) (by kernel_rfl) (fun _ _ _ h => h) (Or.inl ⟨by kernel_rfl, ?hyq20⟩) hHeld ?restq20
            case hyq20 => intro w' hSw; (try dsimp only at hSw); go_simp; try with_reducible rfl
            simp only [Act.put]
            try dsimp only
            refine wpAnyF_ready (rs := [26]) (by kernel_rfl) (by simp) ?_
            refine AllReadyF.last rfl (fun K hK => ?_)
            go_simp
            refine hK.out _ _ ?_
            clear hK K
            refine wpAnyF_done (by kernel_rfl) ?_ _
            have HBz := hide_ (below_to HB2.out (below_to HB12.out hBs))
            clear hBs
            go_wp2_with fail
            go_ret
            exact ⟨rfl, HBz.out⟩
          · have her := ldE hx
            have he1 : (er != 0) = true := by simpa using her
            obtain ⟨w12, hw12⟩ : ∃ wx, wx = w11.alloc (.cells #[.int .i64 er, .int .i64 at2] 31) := ⟨_, rfl⟩
            have hB12 : Below w11.heap.size w11 w12 := by rw [hw12]; exact below1 _ _
            have K12 : Hid (Blk w12 w11.heap.size 31 [.int .i64 er, .int .i64 at2]) := hide_ (by rw [hw12]; exact Blk.newA w11 _ _)
            have HB12 := hide_ (below_to (below_to HB10.out HB11.out) hB12)
            have HCl : Hid (∀ w', Below w12.heap.size w12 w' → (fun w' => Below w12.heap.size w12 w' ∧ w'.cell? ⟨w11.heap.size, 0, none⟩ = some (.int .i64 er)) w') := hide_ (fun w' hb => ⟨hb, (K12.out.later hb).cell 0⟩)
            clear hB12 HB11 HRo HLo hx
            go_upto_region 34 with fail
            rw [← hw12]
            clear hw12
            refine wp_region_last 26 (fun w' => Below w12.heap.size w12 w' ∧ w'.cell? ⟨w11.heap.size, 0, none⟩ = some (.int .i64 er)) (by kernel_rfl) (HCl.out _ ((Below.refl w12.heap.size w12).drew)) (fun hHeld => ?_)
            refine wpAnyF_take [26] (by kernel_rfl) (i := 0) (v := ?vr1) rfl (by kernel_rfl) (by kernel_rfl) (by kernel_rfl) (fun _ _ _ h => h) (Or.inl ⟨by kernel_rfl, ?hyr1⟩) hHeld ?restr1
            case hyr1 => intro w' hSw; (try dsimp only at hSw); go_simp; try with_reducible rfl
            simp only [Act.put]
            try dsimp only
            refine wpAnyF_take [26] (by kernel_rfl) (i := 1) (v := ?vr2) rfl (by kernel_rfl) (by kernel_rfl) (by kernel_rfl) (fun _ _ _ h => h) (Or.inl ⟨by kernel_rfl, ?hyr2⟩) hHeld ?restr2
            case hyr2 => intro w' hSw; (try dsimp only at hSw); go_simp; try with_reducible rfl
            simp only [Act.put]
            try dsimp only
            refine wpAnyF_takeC [26] (by kernel_rfl) (i := 2) (v := .int .i64 er) rfl (by kernel_rfl) (by kernel_rfl) (by kernel_rfl) (fun _ _ _ h => h) ⟨by kernel_rfl, _, #[.int .i64 er], fun w' hSw => ⟨by (try dsimp only at hSw); go_simp; try rfl, HNum.out er w'⟩⟩ hHeld ?_
            simp only [Act.put]
            try dsimp only
            refine wpAnyF_take [26] (by kernel_rfl) (i := 3) (v := ?vr3) rfl (by kernel_rfl) (by kernel_rfl) (by kernel_rfl) (fun _ _ _ h => h) (Or.inl ⟨by kernel_rfl, ?hyr3⟩) hHeld ?restr3
            case hyr3 => intro w' hSw; (try dsimp only at hSw); go_simp; try with_reducible rfl
            simp only [Act.put]
            try dsimp only
            refine wpAnyF_take [26] (by kernel_rfl) (i := 4) (v := ?vr4) rfl (by kernel_rfl) (by kernel_rfl) (by kernel_rfl) (fun _ _ _ h => h) (Or.inl ⟨by kernel_rfl, ?hyr4⟩) hHeld ?restr4
            case hyr4 => intro w' hSw; (try dsimp only at hSw); go_simp; try with_reducible rfl
            simp only [Act.put]
            try dsimp only
            refine wpAnyF_take [26] (by kernel_rfl) (i := 5) (v := ?vr5) rfl (by kernel_rfl) (by kernel_rfl) (by kernel_rfl) (fun _ _ _ h => h) (Or.inl ⟨by kernel_rfl, ?hyr5⟩) hHeld ?restr5
            case hyr5 => intro w' hSw; (try dsimp only at hSw); go_simp; try with_reducible rfl
            simp only [Act.put]
            try dsimp only
            refine wpAnyF_take [26] (by kernel_rfl) (i := 6) (v := ?vr6) rfl (by kernel_rfl) (by kernel_rfl) (by kernel_rfl) (fun _ _ _ h => h) (Or.inl ⟨by kernel_rfl, ?hyr6⟩) hHeld ?restr6
            case hyr6 => intro w' hSw; (try dsimp only at hSw); go_simp; try with_reducible rfl
            simp only [Act.put]
            try dsimp only
            refine wpAnyF_take [26] (by kernel_rfl) (i := 7) (v := ?vr7) rfl (by kernel_rfl) (by kernel_rfl) (by kernel_rfl) (fun _ _ _ h => h) (Or.inl ⟨by kernel_rfl, ?hyr7⟩) hHeld ?restr7
            case hyr7 => intro w' hSw; (try dsimp only at hSw); go_simp; try with_reducible rfl
            simp only [Act.put]
            try dsimp only
            refine wpAnyF_take [26] (by kernel_rfl) (i := 8) (v := ?vr8) rfl (by kernel_rfl) (by kernel_rfl) (by kernel_rfl) (fun _ _ _ h => h) (Or.inl ⟨by kernel_rfl, ?hyr8⟩) hHeld ?restr8
            case hyr8 => intro w' hSw; (try dsimp only at hSw); go_simp; try with_reducible rfl
            simp only [Act.put]
            try dsimp only
            refine wpAnyF_take [26] (by kernel_rfl) (i := 9) (v := undef) rfl (by kernel_rfl) (by kernel_rfl) (by kernel_rfl) (fun _ _ _ h => h) (Or.inr ⟨by kernel_rfl, rfl⟩) hHeld ?_
            simp only [Act.put]
            try dsimp only
            refine wpAnyF_take [26] (by kernel_rfl) (i := 10) (v := undef) rfl (by kernel_rfl) (by kernel_rfl) (by kernel_rfl) (fun _ _ _ h => h) (Or.inr ⟨by kernel_rfl, rfl⟩) hHeld ?_
            simp only [Act.put]
            try dsimp only
            refine wpAnyF_take [26] (by kernel_rfl) (i := 11) (v := undef) rfl (by kernel_rfl) (by kernel_rfl) (by kernel_rfl) (fun _ _ _ h => h) (Or.inr ⟨by kernel_rfl, rfl⟩) hHeld ?_
            simp only [Act.put]
            try dsimp only
            refine wpAnyF_take [26] (by kernel_rfl) (i := 12) (v := undef) rfl (by kernel_rfl) (by kernel_rfl) (by kernel_rfl) (fun _ _ _ h => h) (Or.inr ⟨by kernel_rfl, rfl⟩) hHeld ?_
            simp only [Act.put]
            try dsimp only
            refine wpAnyF_take [26] (by kernel_rfl) (i := 13) (v := undef) rfl (by kernel_rfl) (by kernel_rfl) (by kernel_rfl) (fun _ _ _ h => h) (Or.inr ⟨by kernel_rfl, rfl⟩) hHeld ?_
            simp only [Act.put]
            try dsimp only
            refine wpAnyF_take [26] (by kernel_rfl) (i := 14) (v := undef) rfl (by kernel_rfl) (by kernel_rfl) (by kernel_rfl) (fun _ _ _ h => h) (Or.inr ⟨by kernel_rfl, rfl⟩) hHeld ?_
            simp only [Act.put]
            try dsimp only
            refine wpAnyF_take [26] (by kernel_rfl) (i := 15) (v := undef) rfl (by kernel_rfl) (by kernel_rfl) (by kernel_rfl) (fun _ _ _ h => h) (Or.inr ⟨by kernel_rfl, rfl⟩) hHeld ?_
            simp only [Act.put]
            try dsimp only
            refine wpAnyF_take [26] (by kernel_rfl) (i := 16) (v := undef) rfl (by kernel_rfl) (by kernel_rfl) (by kernel_rfl) (fun _ _ _ h => h) (Or.inr ⟨by kernel_rfl, rfl⟩) hHeld ?_
            simp only [Act.put]
            try dsimp only
            refine wpAnyF_take [26] (by kernel_rfl) (i := 17) (v := undef) rfl (by kernel_rfl) (by kernel_rfl) (by kernel_rfl) (fun _ _ _ h => h) (Or.inr ⟨by kernel_rfl, rfl⟩) hHeld ?_
            simp only [Act.put]
            try dsimp only
            refine wpAnyF_take [26] (by kernel_rfl) (i := 18) (v := undef) rfl (by kernel_rfl) (by kernel_rfl) (by kernel_rfl) (fun _ _ _ h => h) (Or.inr ⟨by kernel_rfl, rfl⟩) hHeld ?_
            simp only [Act.put]
            try dsimp only
            refine wpAnyF_take [26] (by kernel_rfl) (i := 19) (v := undef) rfl (by kernel_rfl) (by kernel_rfl) (by kernel_rfl) (fun _ _ _ h => h) (Or.inr ⟨by kernel_rfl, rfl⟩) hHeld ?_
            simp only [Act.put]
            try dsimp only
            refine wpAnyF_take [26] (by kernel_rfl) (i := 20) (v := undef) rfl (by kernel_rfl) (by kernel_rfl) (by kernel_rfl) (fun _ _ _ h => h) (Or.inr ⟨by kernel_rfl, rfl⟩) hHeld ?_
            simp only [Act.put]
            try dsimp only
            refine wpAnyF_take [26] (by kernel_rfl) (i := 21) (v := undef) rfl (by kernel_rfl) (by kernel_rfl) (by kernel_rfl) (fun _ _ _ h => h) (Or.inr ⟨by kernel_rfl, rfl⟩) hHeld ?_
            simp only [Act.put]
            try dsimp only
            refine wpAnyF_take [26] (by kernel_rfl) (i := 22) (v := undef) rfl (by kernel_rfl) (by kernel_rfl) (by kernel_rfl) (fun _ _ _ h => h) (Or.inr ⟨by kernel_rfl, rfl⟩) hHeld ?_
            simp only [Act.put]
            try dsimp only
            refine wpAnyF_take [26] (by kernel_rfl) (i := 23) (v := undef) rfl (by kernel_rfl) (by kernel_rfl) (by kernel_rfl) (fun _ _ _ h => h) (Or.inr ⟨by kernel_rfl, rfl⟩) hHeld ?_
            simp only [Act.put]
            try dsimp only
            refine wpAnyF_take [26] (by kernel_rfl) (i := 24) (v := undef) rfl (by kernel_rfl) (by kernel_rfl) (by kernel_rfl) (fun _ _ _ h => h) (Or.inr ⟨by kernel_rfl, rfl⟩) hHeld ?_
            simp only [Act.put]
            try dsimp only
            refine wpAnyF_take [26] (by kernel_rfl) (i := 25) (v := ?vr9) rfl (by kernel_rfl) (by kernel_rfl) (by kernel_rfl) (fun _ _ _ h => h) (Or.inl ⟨by kernel_rfl, ?hyr9⟩) hHeld ?restr9
            case hyr9 => intro w' hSw; (try dsimp only at hSw); go_simp; try with_reducible rfl
            simp only [Act.put]
            try dsimp only
            refine wpAnyF_ready (rs := [26]) (by kernel_rfl) (by simp) ?_
            refine AllReadyF.last rfl (fun K hK => ?_)
            go_simp
            refine hK.out _ _ ?_
            clear hK K
            refine wpAnyF_done (by kernel_rfl) ?_ _
            have HBz := hide_ (below_to HB2.out (below_to HB12.out ((Below.refl w12.heap.size w12).drew)))
            go_wp2_with fail
            go_ret
            exact ⟨rfl, HBz.out⟩
    | succ j =>
      have e : (((j + 1 : Nat) : Int) - 1) = (j : Int) := by omega
      rw [e]
      clear e
      have hjP : j < P.length := by omega
      have htk : (P.map (·.1)).take (j + 1) = (P.map (·.1)).take j ++ [(P[j]'hjP).1] := by
        rw [List.take_succ_eq_append_getElem (by simpa using hjP)]
        simp
      have hxj : P[j]? = some (P[j]'hjP) := List.getElem?_eq_getElem hjP
      obtain ⟨p, hp⟩ : ∃ p, P[j]'hjP = p := ⟨_, rfl⟩
      rw [hp] at htk hxj
      obtain ⟨f'', v8⟩ := p
      have HXj := hide_ hxj
      obtain ⟨gO, cO, yO, hvO, -⟩ := ownS_blk HK.out.ow.row (show 0 < P.length by omega)
      have HAv : Hid (av = some ⟨gO, 0, none⟩) := hide_ (by injection hvO)
      clear hvO
      have HPop := hide_ (pop_any wk w4.heap.size F2 g2 _ ((n : Int) + 1) (n : Int) (hide_ HK.out.st) HK.out.bw)
      have hjl : (j : Int) < (P.length : Int) := by omega
      have hj0 : ¬ ((j : Int) < 0) := by omega
      have HTk := hide_ htk
      clear hp hxj htk
      go_wp2_with fail
      refine HPop.out.mono ?_
      rintro e w5' (⟨hb, -, -, -⟩ | ⟨l, f', a2, c2, hfs, rfl, HI5, HS5, HU5⟩)
      · exfalso
        rw [HTk.out] at hb
        simp at hb
      obtain ⟨rfl, rfl⟩ : l = (P.map (·.1)).take j ∧ f' = f'' := by
        rw [HTk.out] at hfs
        have h1 := List.append_inj' hfs rfl
        exact ⟨h1.1.symm, by have := h1.2; simp at this; exact this.symm⟩
      have hk5 := HK.out.upd HU5.out HS5.out
      obtain ⟨w6', hw6⟩ : ∃ w6', w6' = w5'.alloc (.cells #[.int .i64 f'.r, .int .i64 f'.a, .int .i64 f'.b, .int .i64 f'.e, .int .i64 f'.n, .int .i64 f'.x, .slice a2 f'.T.length c2] 39) := ⟨_, rfl⟩
      have hB6 : Below w5'.heap.size w5' w6' := by rw [hw6]; exact below1 _ _
      have kb : Blk w6' w5'.heap.size 39 (frc (f', .slice a2 f'.T.length c2)) := by rw [hw6]; exact Blk.newA w5' _ _
      have HKb := hide_ kb
      have HK6 := hide_ (hk5.later hB6)
      have HI6 := hide_ (HI5.out.later hB6)
      obtain ⟨a8, c8, h8, hf8⟩ := (HK6.out.ow.tb (f', v8) (List.mem_of_getElem? HXj.out)).fra
      have h8' : v8 = .slice a8 f'.T.length c8 := h8
      subst h8'
      have HFa8 := hide_ hf8
      obtain ⟨a7, c7, h7, hf7⟩ := HI6.out.fra
      injection h7 with h71 _ h73
      subst h71 h73
      have HFa7 := hide_ hf7
      have HCl : Hid (∀ w', Below w6'.heap.size w6' w' → (fun w' => w'.cell? ⟨w5'.heap.size, 0, none⟩ = some (.int .i64 f'.r) ∧ w'.cell? ⟨w5'.heap.size, 1, none⟩ = some (.int .i64 f'.a) ∧ w'.cell? ⟨w5'.heap.size, 2, none⟩ = some (.int .i64 f'.b) ∧ w'.cell? ⟨w5'.heap.size, 3, none⟩ = some (.int .i64 f'.e) ∧ w'.cell? ⟨w5'.heap.size, 4, none⟩ = some (.int .i64 f'.n) ∧ w'.cell? ⟨w5'.heap.size, 5, none⟩ = some (.int .i64 f'.x) ∧ w'.cell? ⟨w5'.heap.size, 6, none⟩ = some (.slice a2 f'.T.length c2) ∧ w'.cell? ⟨gO, j * 7, none⟩ = some (.int .i64 f'.r) ∧ w'.cell? ⟨gO, j * 7 + 1, none⟩ = some (.int .i64 f'.a) ∧ w'.cell? ⟨gO, j * 7 + 2, none⟩ = some (.int .i64 f'.b) ∧ w'.cell? ⟨gO, j * 7 + 3, none⟩ = some (.int .i64 f'.e) ∧ w'.cell? ⟨gO, j * 7 + 4, none⟩ = some (.int .i64 f'.n) ∧ w'.cell? ⟨gO, j * 7 + 5, none⟩ = some (.int .i64 f'.x) ∧ w'.cell? ⟨gO, j * 7 + 6, none⟩ = some (.slice a8 f'.T.length c8)) w') := hide_ (fun w' hb => by
        have k := HKb.out.later hb
        have ow := HK6.out.ow.later hb
        rw [HAv.out] at ow
        obtain ⟨d0, d1, d2, d3, d4, d5, d6⟩ := ow.at7b HXj.out
        exact ⟨k.cell 0, k.cell 1, k.cell 2, k.cell 3, k.cell 4, k.cell 5, k.cell 6, d0, d1, d2, d3, d4, d5, d6⟩)
      have HSame := hide_ (same_yes f' a2 a8 c2 c8 w6'.drew (hide_ ⟨HFa7.out.1.drew, HFa7.out.2⟩) (hide_ ⟨HFa8.out.1.drew, HFa8.out.2⟩))
      have HLen : Hid (∀ w', Below w6'.heap.size w6' w' → Calls Try.prog 11 #[.pointer (some ⟨g2, 0, none⟩)] w' fun e w'' => e = .returned (.int .i64 (j : Int)) ∧ w' = w'') := hide_ (fun w' hb => lenS (HK6.out.st.later hb) (by rw [List.length_take, List.length_map]; omega))
      have hjj2 : ((j : Int) != (j : Int)) = false := by simp
      have hjw := i64w ((j : Int) - 1) (by omega)
      clear hfs hk5 hB6 kb h8 hf8 hf7 HPop HK
      go_upto_region 22 with fail
      rw [← hw6]
      clear hw6
      refine wp_region_last 17 (fun w' => w'.cell? ⟨w5'.heap.size, 0, none⟩ = some (.int .i64 f'.r) ∧ w'.cell? ⟨w5'.heap.size, 1, none⟩ = some (.int .i64 f'.a) ∧ w'.cell? ⟨w5'.heap.size, 2, none⟩ = some (.int .i64 f'.b) ∧ w'.cell? ⟨w5'.heap.size, 3, none⟩ = some (.int .i64 f'.e) ∧ w'.cell? ⟨w5'.heap.size, 4, none⟩ = some (.int .i64 f'.n) ∧ w'.cell? ⟨w5'.heap.size, 5, none⟩ = some (.int .i64 f'.x) ∧ w'.cell? ⟨w5'.heap.size, 6, none⟩ = some (.slice a2 f'.T.length c2) ∧ w'.cell? ⟨gO, j * 7, none⟩ = some (.int .i64 f'.r) ∧ w'.cell? ⟨gO, j * 7 + 1, none⟩ = some (.int .i64 f'.a) ∧ w'.cell? ⟨gO, j * 7 + 2, none⟩ = some (.int .i64 f'.b) ∧ w'.cell? ⟨gO, j * 7 + 3, none⟩ = some (.int .i64 f'.e) ∧ w'.cell? ⟨gO, j * 7 + 4, none⟩ = some (.int .i64 f'.n) ∧ w'.cell? ⟨gO, j * 7 + 5, none⟩ = some (.int .i64 f'.x) ∧ w'.cell? ⟨gO, j * 7 + 6, none⟩ = some (.slice a8 f'.T.length c8)) (by kernel_rfl) (HCl.out _ ((Below.refl w6'.heap.size w6').drew)) (fun hHeld => ?_)
      refine wpAnyF_take [17, 12, 9, 3, 1] (by kernel_rfl) (i := 0) (v := ?vh1) rfl (by kernel_rfl) (by kernel_rfl) (by kernel_rfl) (fun _ _ _ h => h) (Or.inl ⟨by kernel_rfl, ?hyh1⟩) hHeld ?resth1
      case hyh1 => intro w' hSw; (try dsimp only at hSw); go_simp; try with_reducible rfl
      simp only [Act.put]
      try dsimp only
      refine wpAnyF_takeC [17, 12, 9, 3] (by kernel_rfl) (i := 1) (v := .int .i64 0) rfl (by kernel_rfl) (by kernel_rfl) (by kernel_rfl) (fun _ _ _ h => h) ⟨by kernel_rfl, _, #[.int .i64 0], fun w' hSw => ⟨by (try dsimp only at hSw); go_simp; try rfl, HNum.out 0 w'⟩⟩ hHeld ?_
      simp only [Act.put]
      try dsimp only
      refine wpAnyF_take [17, 12, 9, 3] (by kernel_rfl) (i := 2) (v := ?vh2) rfl (by kernel_rfl) (by kernel_rfl) (by kernel_rfl) (fun _ _ _ h => h) (Or.inl ⟨by kernel_rfl, ?hyh2⟩) hHeld ?resth2
      case hyh2 => intro w' hSw; (try dsimp only at hSw); go_simp; try with_reducible rfl
      simp only [Act.put]
      try dsimp only
      refine wpAnyF_take [17, 12, 9] (by kernel_rfl) (i := 3) (v := ?vh3) rfl (by kernel_rfl) (by kernel_rfl) (by kernel_rfl) (fun _ _ _ h => h) (Or.inl ⟨by kernel_rfl, ?hyh3⟩) hHeld ?resth3
      case hyh3 => intro w' hSw; (try dsimp only at hSw); go_simp; try with_reducible rfl
      simp only [Act.put]
      try dsimp only
      refine wpAnyF_take [17, 12, 9] (by kernel_rfl) (i := 4) (v := ?vh4) rfl (by kernel_rfl) (by kernel_rfl) (by kernel_rfl) (fun _ _ _ h => h) (Or.inl ⟨by kernel_rfl, ?hyh4⟩) hHeld ?resth4
      case hyh4 => intro w' hSw; (try dsimp only at hSw); go_simp; try with_reducible rfl
      simp only [Act.put]
      try dsimp only
      refine wpAnyF_take [17, 12, 9, 8, 7] (by kernel_rfl) (i := 5) (v := ?vh5) rfl (by kernel_rfl) (by kernel_rfl) (by kernel_rfl) (fun _ _ _ h => h) (Or.inl ⟨by kernel_rfl, ?hyh5⟩) hHeld ?resth5
      case hyh5 => intro w' hSw; (try dsimp only at hSw); go_simp; try with_reducible rfl
      simp only [Act.put]
      try dsimp only
      refine wpAnyF_take [17, 12, 9, 8, 7] (by kernel_rfl) (i := 6) (v := ?vh6) rfl (by kernel_rfl) (by kernel_rfl) (by kernel_rfl) (fun _ _ _ h => h) (Or.inl ⟨by kernel_rfl, ?hyh6⟩) hHeld ?resth6
      case hyh6 => intro w' hSw; (try dsimp only at hSw); go_simp; try with_reducible rfl
      simp only [Act.put]
      try dsimp only
      refine wpAnyF_take [17, 12, 9, 8] (by kernel_rfl) (i := 7) (v := ?vh7) rfl (by kernel_rfl) (by kernel_rfl) (by kernel_rfl) (fun _ _ _ h => h) (Or.inl ⟨by kernel_rfl, ?hyh7⟩) hHeld ?resth7
      case hyh7 => intro w' hSw; (try dsimp only at hSw); rw [HAv.out]; go_simp; try with_reducible rfl
      simp only [Act.put]
      try dsimp only
      refine wpAnyF_take [17, 12, 9] (by kernel_rfl) (i := 8) (v := ?vh8) rfl (by kernel_rfl) (by kernel_rfl) (by kernel_rfl) (fun _ _ _ h => h) (Or.inl ⟨by kernel_rfl, ?hyh8⟩) hHeld ?resth8
      case hyh8 => intro w' hSw; (try dsimp only at hSw); go_simp; try with_reducible rfl
      simp only [Act.put]
      try dsimp only
      refine wpAnyF_ready (rs := [9]) (by kernel_rfl) (by simp) ?_
      refine AllReadyF.cons rfl (fun K hK => ?_) AllReadyF.nil
      go_simp
      refine HSame.out.mono ?_
      rintro e w7' ⟨rfl, hB7⟩
      have hBs : Below w6'.heap.size w6' w7' := below_to ((Below.refl w6'.heap.size w6').drew) hB7
      clear hB7
      dsimp only
      refine hK.out _ _ (HCl.out _ hBs) (fun hHeld => ?_)
      clear hK K
      refine wpAnyF_take [17, 12, 11] (by kernel_rfl) (i := 10) (v := ?vh9) rfl (by kernel_rfl) (by kernel_rfl) (by kernel_rfl) (fun _ _ _ h => h) (Or.inl ⟨by kernel_rfl, ?hyh9⟩) hHeld ?resth9
      case hyh9 => intro w' hSw; (try dsimp only at hSw); go_simp; try with_reducible rfl
      simp only [Act.put]
      try dsimp only
      refine wpAnyF_take [17, 12] (by kernel_rfl) (i := 11) (v := ?vh10) rfl (by kernel_rfl) (by kernel_rfl) (by kernel_rfl) (fun _ _ _ h => h) (Or.inl ⟨by kernel_rfl, ?hyh10⟩) hHeld ?resth10
      case hyh10 => intro w' hSw; (try dsimp only at hSw); go_simp; try with_reducible rfl
      simp only [Act.put]
      try dsimp only
      refine wpAnyF_take [17] (by kernel_rfl) (i := 12) (v := ?vh11) rfl (by kernel_rfl) (by kernel_rfl) (by kernel_rfl) (fun _ _ _ h => h) (Or.inl ⟨by kernel_rfl, ?hyh11⟩) hHeld ?resth11
      case hyh11 => intro w' hSw; (try dsimp only at hSw); go_simp; try with_reducible rfl
      simp only [Act.put]
      try dsimp only
      refine wpAnyF_take [17, 16, 14] (by kernel_rfl) (i := 13) (v := ?vh12) rfl (by kernel_rfl) (by kernel_rfl) (by kernel_rfl) (fun _ _ _ h => h) (Or.inl ⟨by kernel_rfl, ?hyh12⟩) hHeld ?resth12
      case hyh12 => intro w' hSw; (try dsimp only at hSw); go_simp; try with_reducible rfl
      simp only [Act.put]
      try dsimp only
      refine wpAnyF_take [17, 16] (by kernel_rfl) (i := 15) (v := ?vh13) rfl (by kernel_rfl) (by kernel_rfl) (by kernel_rfl) (fun _ _ _ h => h) (Or.inl ⟨by kernel_rfl, ?hyh13⟩) hHeld ?resth13
      case hyh13 => intro w' hSw; (try dsimp only at hSw); go_simp; try with_reducible rfl
      simp only [Act.put]
      try dsimp only
      refine wpAnyF_ready (rs := [14]) (by kernel_rfl) (by simp) ?_
      refine AllReadyF.cons rfl (fun K hK => ?_) AllReadyF.nil
      go_simp
      refine (HLen.out _ hBs).mono ?_
      rintro e w8' ⟨rfl, rfl⟩
      dsimp only
      refine hK.out _ _ (HCl.out _ hBs) (fun hHeld => ?_)
      clear hK K
      refine wpAnyF_take [17] (by kernel_rfl) (i := 16) (v := ?vh14) rfl (by kernel_rfl) (by kernel_rfl) (by kernel_rfl) (fun _ _ _ h => h) (Or.inl ⟨by kernel_rfl, ?hyh14⟩) hHeld ?resth14
      case hyh14 => intro w' hSw; (try dsimp only at hSw); go_simp; try with_reducible rfl
      simp only [Act.put]
      try dsimp only
      refine wpAnyF_ready (rs := [17]) (by kernel_rfl) (by simp) ?_
      refine AllReadyF.last rfl (fun K hK => ?_)
      go_simp
      refine hK.out _ _ ?_
      clear hK K
      refine wpAnyF_done (by kernel_rfl) ?_ _
      have HK7 := hide_ (HK6.out.later hBs)
      clear hBs
      go_wp2_with fail
      go_roundw
      case rel => exact ⟨j, by omega, rfl, HK7⟩
      case measure => simp [intOf]
end Go.Proofs.Ytcmkdkocponpiaa
