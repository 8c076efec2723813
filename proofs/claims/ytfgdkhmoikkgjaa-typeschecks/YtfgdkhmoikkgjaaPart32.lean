import Derived.Test.YtfgdkhmoikkgjaaPart31
import Derived.Test.YtfgdkhmoikkgjaaPart02
import Derived.Test.YtfgdkhmoikkgjaaPart22

/- mortiselaw09's own: its walk. -/
namespace Go.Proofs.Ytfgdkhmoikkgjaa
open Go.RowKit
set_option linter.unusedVariables false

def mkR : Rt := ⟨⟨#[109, 97, 114, 107]⟩, 7⟩
def OwnTo (w : World) (T : List Ty) (R : List Rt) (e : Ending) (w' : World) : Prop := ∃ gT cT Q gR cR, e = .returned (.agg #[.slice (some ⟨gT, 0, none⟩) T.length cT, .slice (some ⟨gR, 0, none⟩) R.length cR]) ∧ Hid (LtO w' w.heap.size gT cT Q (.slice (some ⟨gR, 0, none⟩) (R.length + 1) cR) (R ++ [mkR])) ∧ Hid (Q.map (·.1) = T) ∧ Hid (T.length + 1 ≤ cT ∧ R.length + 1 ≤ cR) ∧ Hid (Below w.heap.size w w')
theorem elemRt : Try.prog.underlying 23 = some (.slice (Try.prog.elem 23)) := by kernel_rfl
theorem elemRti : Try.prog.elem 23 = 51 := by kernel_rfl
theorem bldRm (w : World) : (Instr.build 51 #[(0, .string ⟨#[109, 97, 114, 107]⟩), (1, .int .i64 7)]).run Try.prog w = .ok (.agg #[.string ⟨#[109, 97, 114, 107]⟩, .int .i64 7]) w := by kernel_rfl
theorem elemTyp : Try.prog.underlying 22 = some (.slice (Try.prog.elem 22)) := by kernel_rfl
theorem elemTypi : Try.prog.elem 22 = 49 := by kernel_rfl
theorem elemPa : Try.prog.underlying 47 = some (.slice (Try.prog.elem 47)) := by kernel_rfl
theorem elemPai : Try.prog.elem 47 = 53 := by kernel_rfl
theorem addr0 (a : Addr) : a.add 0 = a := by cases a; simp [Addr.add]
theorem cutTyp (a : Option Addr) (n q c : Nat) (hq : q ≤ c) (w' : World) : (Instr.slice 22 (.slice a n c) none (some (.int .i64 (q : Int))) none).run Try.prog w' = .ok (.slice a q c) w' := by
  have hz : (sizeOf (Try.prog.elem 22)).run Try.prog w' = .ok 4 w' := by rw [elemTypi]; exact Try.sizeOf49 w'
  rw [run_slice_h (P := Try.prog) w' 22 _ n c elemTyp .i64 (q : Int) (by omega) (by omega), hz]
  cases a <;> simp [sliced, Result.andThen, addr0]
theorem cutPar (a : Option Addr) (n q c : Nat) (hq : q ≤ c) (w' : World) : (Instr.slice 47 (.slice a n c) none (some (.int .i64 (q : Int))) none).run Try.prog w' = .ok (.slice a q c) w' := by
  have hz : (sizeOf (Try.prog.elem 47)).run Try.prog w' = .ok 3 w' := by rw [elemPai]; exact Try.sizeOf53 w'
  rw [run_slice_h (P := Try.prog) w' 47 _ n c elemPa .i64 (q : Int) (by omega) (by omega), hz]
  cases a <;> simp [sliced, Result.andThen, addr0]
theorem cutRt (a : Option Addr) (n q c : Nat) (hq : q ≤ c) (w' : World) : (Instr.slice 23 (.slice a n c) none (some (.int .i64 (q : Int))) none).run Try.prog w' = .ok (.slice a q c) w' := by
  have hz : (sizeOf (Try.prog.elem 23)).run Try.prog w' = .ok 2 w' := by rw [elemRti]; exact Try.sizeOf51 w'
  rw [run_slice_h (P := Try.prog) w' 23 _ n c elemRt .i64 (q : Int) (by omega) (by omega), hz]
  cases a <;> simp [sliced, Result.andThen, addr0]
set_option maxRecDepth 100000 in
set_option maxHeartbeats 8000000 in
theorem own_any (aT : Option Addr) (cT : Nat) (T : List Ty) (aR : Option Addr) (cR : Nat) (R : List Rt) (w : World) (hTl : T.length ≤ 2932031007401) (hRl : R.length ≤ 5864062014634) (hno : aT = none → cT = 0) (hnR : aR = none → cR = 0) (hpl : Hid (∀ t ∈ T, t.ps.length ≤ 4398046510976)) (hT : Hid (TRowz w aT T)) (hR : Hid (RRow w aR R)) :
    Calls Try.prog 5 #[.agg #[.slice aT T.length cT, .slice aR R.length cR]] w fun e w' => OwnTo w T R e w' := by
  have hB0 := below2z w (.cells #[.slice aT T.length cT, .slice aR R.length cR] 25) (.cells #[.slice none 0 0, .slice none 0 0] 25)
  obtain ⟨ks, kr⟩ := blk2z w #[.slice aT T.length cT, .slice aR R.length cR] #[.slice none 0 0, .slice none 0 0] 25 25
  obtain ⟨w0, hw0⟩ : ∃ wx, wx = (w.alloc (.cells #[.slice aT T.length cT, .slice aR R.length cR] 25)).alloc (.cells #[.slice none 0 0, .slice none 0 0] 25) := ⟨_, rfl⟩
  rw [← hw0] at hB0 ks kr
  have hb1 := below1 w0 (.cells #[] 49)
  obtain ⟨Q0, hQ, hG, hP⟩ := (hT.out).pairs w.heap.size (Nat.le_refl _)
  have hGl : GRow 4 tyq w aT Q0 := hG
  have hQl : Q0.length = T.length := by have := congrArg List.length hQ; simpa using this
  have hone : ∀ p : Ty × Value, ∀ u ∈ tyq p, True := fun _ _ _ => trivial
  obtain ⟨v1, w1, r1, o1, u1⟩ : ∃ v' w', (Builtin.append_ #[22, 22] 22 #[.slice (some ⟨w0.heap.size, 0, none⟩) 0 0, .slice aT T.length cT]).run Try.prog (w0.alloc (.cells #[] 49)) = .ok v' w' ∧ w'.ownsRow w.heap.size 49 4 v' Q0.length (cellsG tyq Q0) ∧ Upd (fun k => k = w0.heap.size) (w0.alloc (.cells #[] 49)) w' := by
    obtain ⟨v', w', q1, q2, q3⟩ := run_copyE2 (w0.alloc (.cells #[] 49)) (emptyE w0 49 4 w.heap.size hB0.size) aT T.length cT Q0 hQl (hG.later (below_to hB0 hb1)) hP hno (by omega) (Nat.le_trans hB0.size hb1.size)
    exact ⟨v', w', q1, by rw [hQl]; exact q2, q3.mono (fun k _ e => (own_is e).symm)⟩
  have hB1 : Below w.heap.size w w1 := (below_to hB0 hb1).trans (u1.below _ (Nat.le_trans hB0.size hb1.size) (fun k e => by rw [e]; exact hB0.size))
  have hks := (ks.later hb1).upd u1 (fun e => by have := ks.lt; omega)
  have hkr := (kr.later hb1).upd u1 (fun e => by have := kr.lt; omega)
  have hBt : Below w0.heap.size w0 w1 := hb1.trans (u1.below _ hb1.size (fun k e => by omega))
  have H1 : OwS w w1 v1 Q0 0 (.slice aT T.length cT) (.slice aR R.length cR) := ⟨⟨o1, fun p hp => by
      obtain ⟨va, vc, e, h1, h2, h3, h4⟩ := hP p hp
      refine ⟨va, vc, e, h1, h2, h3.later hB1, ?_⟩
      rcases h4 with h4 | h4
      · exact .inl h4
      · rcases h3 with h3 | ⟨b', o', rfl, hb', -⟩
        · exact .inl h3
        · exact .inr (fun x hx => by injection hx with hx; subst hx; exact .inl hb')⟩, fun j p hj => by omega, hks, hkr, hB1⟩
  obtain ⟨a1, c1, e1, -, hn1, -⟩ := own_grow tyq_len o1
  subst e1
  rw [hQl] at H1 r1
  have HO1 := hide_ H1
  have HR1 := hide_ r1
  have HQ0 := hide_ hQ
  have s0 := (ks.later hb1).cell 0
  simp at s0
  have HRb := hide_ hR.out
  clear hb1 hG hGl hone o1 u1 hks hkr hBt H1 hP r1 ks kr hB1 hB0 hn1
  go_enter Try.func5, Try.ntmps5
  go_upto_region 1 with fail
  rw [← hw0]
  clear hw0
  go_upto_region 3 with (at_builtin; refine wpList_append_run rfl (.tmp 7) (.tmp 9) 22 22 rfl rfl rfl HR1.out ?_)
  clear HR1 s0
  go_loopw [4] (fun x4 wr => ∃ (i : Nat), i ≤ T.length ∧ x4 = .int .i64 (i : Int) ∧ Hid (∃ Q, Q.map (·.1) = T ∧ OwS w wr (.slice a1 T.length c1) Q i (.slice aT T.length cT) (.slice aR R.length cR))) (fun x4 _ => T.length - (intOf x4).toNat)
  case atStart => exact ⟨0, Nat.zero_le _, rfl, hide_ ⟨Q0, HQ0.out, HO1.out⟩⟩
  case round =>
    obtain ⟨i, hi, rfl, HOq⟩ := hrel
    generalize wr = wq at *
    clear HO1 HQ0 hQ hQl
    obtain ⟨Q, hQ, hO⟩ := HOq.out
    have hQl : Q.length = T.length := by have := congrArg List.length hQ; simpa using this
    by_cases hlt : i < T.length
    · have hlt' : (i : Int) < (T.length : Int) := by omega
      obtain ⟨p, hp⟩ : ∃ p, Q[i]? = some p := ⟨_, List.getElem?_eq_getElem (by omega)⟩
      obtain ⟨t, u⟩ := p
      have htT : T[i]? = some t := by rw [← hQ, List.getElem?_map, hp]; rfl
      have htl := hpl.out t (List.mem_of_getElem? htT)
      obtain ⟨g, hga⟩ : ∃ g, a1 = some ⟨g, 0, none⟩ := by
        obtain ⟨g, cap, ys, e, -⟩ := ownS_blk hO.ty.1 (by omega)
        injection e with e _ _
        exact ⟨g, e⟩
      subst hga
      obtain ⟨va, vc, a2, c2, w1, g2, c3, w2, rfl, m1, m2, r1, r2, m3, m4, hc3, hO2⟩ := hO.step hp htl
      have hQ2 : (Q.set i (t, .slice (some ⟨g2, 0, none⟩) t.ps.length c3)).map (·.1) = T := by
        rw [List.map_set, hQ]
        obtain ⟨hi9, e9⟩ := List.getElem?_eq_some_iff.1 htT
        show T.set i t = T
        rw [← e9]
        simp
      have HR1 := hide_ r1
      have HR2 := hide_ r2
      have HO2 := hide_ (⟨_, hQ2, hO2⟩ : ∃ Q', Q'.map (·.1) = T ∧ OwS w (w2.setCell ⟨g, i * 4 + 3, none⟩ (.slice (some ⟨g2, 0, none⟩) t.ps.length c3)) (.slice (some ⟨g, 0, none⟩) T.length c1) Q' (i + 1) (.slice aT T.length cT) (.slice aR R.length cR))
      have hcu := fun w' => cutPar (some ⟨g2, 0, none⟩) (t.ps.length + 1) t.ps.length c3 (by omega) w'
      clear r1 r2 hO2 hQ2 hO HOq hp htT hQ hQl
      go_upto_region 6 with (first
        | (at_builtin; refine wpList_append_run rfl (.tmp 17) (.tmp 22) 47 47 rfl rfl rfl HR1.out ?_)
        | (at_builtin; refine wpList_append_run rfl (.tmp 23) (.tmp 25) 47 47 rfl rfl rfl HR2.out ?_))
      clear HR1 HR2 m1 m2
      go_wp2_with fail
      go_roundw
      case rel => exact ⟨i + 1, by omega, by go_num, HO2⟩
      case measure => simp [intOf]; omega
    · obtain rfl : i = T.length := by omega
      have hlt' : ¬ (T.length : Int) < (T.length : Int) := by omega
      rw [← hQl] at hO
      obtain ⟨g, c, w7, r7, t7, m7, ks7, kr7, b7, hc7⟩ := hO.seal (by omega)
      rw [hQl] at r7 t7 hc7 ks7
      obtain ⟨v8, w8, r8, o8, u8⟩ := run_copyE (P := Try.prog) rtc_len rtc_one1 Try.underlying23 infoR rfl (by decide) (w7.alloc (.cells #[] 51)) (emptyE w7 51 2 w.heap.size b7.size) aR R.length cR R rfl ((hR.out.later b7).later (below1 w7 (.cells #[] 51))) hnR (by unfold maxLen; omega) (by omega) (by have := b7.size; simp; omega)
      have hbE : Below w7.heap.size w7 (w7.alloc (.cells #[] 51)) := below1 w7 (.cells #[] 51)
      have hb8 : Below w7.heap.size w7 w8 := hbE.trans (u8.below _ hbE.size (fun k e => by have := own_is e; omega))
      obtain ⟨a8, c8, e8, -, -, -⟩ := own_grow rtc_len o8
      subst e8
      have ba := below1 w8 (.cells #[.string ⟨#[109, 97, 114, 107]⟩, .int .i64 7] 51)
      have km : Blk (w8.alloc (.cells #[.string ⟨#[109, 97, 114, 107]⟩, .int .i64 7] 51)) w8.heap.size 51 (rtc mkR) := Blk.newA w8 _ _
      have o8a := ROwn.later o8 ba
      obtain ⟨g9, c9, w9, r9, o9, u9, -, hc9, -⟩ := run_app1 (P := Try.prog) rtc_len rtc_one1 Try.underlying23 infoR rfl (by decide) _ o8a w8.heap.size mkR km (by unfold maxLen; omega) (by omega) (Nat.le_trans (Nat.le_trans b7.size hb8.size) ba.size)
      have h8a := below_to hb8 ba
      have hroot : ∀ {k t ys}, Blk (w8.alloc (.cells #[.string ⟨#[109, 97, 114, 107]⟩, .int .i64 7] 51)) k t ys → t ≠ 51 → ¬ (Value.slice a8 R.length c8).ownBlock = some k := fun hk ht e => by
        obtain ⟨zs, hz⟩ := ownS_type o8a e
        exact ht (blk_type hk hz)
      obtain ⟨wd, hwd⟩ : ∃ wx, wx = w9.drew := ⟨_, rfl⟩
      have D9 : Below w9.heap.size w9 wd := by rw [hwd]; exact (Below.refl w9.heap.size w9).drew
      have t8 := t7.later h8a
      have t9 : TOwn wd w.heap.size (.slice (some ⟨g, 0, none⟩) (T.length + 1) c) (Q ++ [(mkT, .slice none 0 0)]) := TOwn.later (w := w9) ⟨ownS_upd t8.1 u9 (fun k hk => by
          obtain ⟨ys, hy⟩ := ownS_type t8.1 hk
          exact hroot hy (by decide)), fun p hp => (t8.2 p hp).upd u9 (fun k e => (World.ownsRow.lt o8a k e).1) (fun k ys e hy => hroot hy (by decide) e)⟩ D9
      have m9 : ∀ p ∈ Q, MkIn wd w.heap.size mkP p.1.ps p.2 := fun p hp => (((m7 p hp).later h8a).upd u9 (fun k ys e hy => hroot hy (by decide) e)).later D9
      have ks9 := ((ks7.later h8a).upd u9 (hroot (ks7.later h8a) (by decide))).later D9
      have kr9 := ((kr7.later h8a).upd u9 (hroot (kr7.later h8a) (by decide))).later D9
      have o9d : ROwn wd w.heap.size (.slice (some ⟨g9, 0, none⟩) (R.length + 1) c9) (R ++ [mkR]) := ROwn.later o9 D9
      have hbd : Below w.heap.size w wd := below_to ((below_to b7 h8a).trans (u9.below _ (below_to b7 h8a).size (fun k e => (World.ownsRow.lt o8a k e).1))) D9
      have hu9 : Upd (fun k => k = w.heap.size + 1) wd ((wd.setCell ⟨w.heap.size + 1, 0, none⟩ (.slice (some ⟨g, 0, none⟩) T.length c)).setCell ⟨w.heap.size + 1, 1, none⟩ (.slice (some ⟨g9, 0, none⟩) R.length c9)) := ((Upd.refl (fun k => k = w.heap.size + 1) wd).set _ _ (.inl rfl)).set _ _ (.inl rfl)
      have HLt : Hid (LtO ((wd.setCell ⟨w.heap.size + 1, 0, none⟩ (.slice (some ⟨g, 0, none⟩) T.length c)).setCell ⟨w.heap.size + 1, 1, none⟩ (.slice (some ⟨g9, 0, none⟩) R.length c9)) w.heap.size g c Q (.slice (some ⟨g9, 0, none⟩) (R.length + 1) c9) (R ++ [mkR])) := hide_ ⟨by rw [hQl]; exact t9.updN hu9 kr9 (by omega) (by decide) (by decide), fun p hp => (m9 p hp).upd hu9 (fun k ys e hb => by subst e; exact absurd (blk_type kr9 hb) (by decide)), ROwn.updN o9d hu9 kr9 (by decide)⟩
      have HKf : Hid (Blk ((wd.setCell ⟨w.heap.size + 1, 0, none⟩ (.slice (some ⟨g, 0, none⟩) T.length c)).setCell ⟨w.heap.size + 1, 1, none⟩ (.slice (some ⟨g9, 0, none⟩) R.length c9)) (w.heap.size + 1) 25 [.slice (some ⟨g, 0, none⟩) T.length c, .slice (some ⟨g9, 0, none⟩) R.length c9]) := hide_ (by have := (kr9.set 0 (.slice (some ⟨g, 0, none⟩) T.length c)).set 1 (.slice (some ⟨g9, 0, none⟩) R.length c9); simpa using this)
      have HBf : Hid (Below w.heap.size w ((wd.setCell ⟨w.heap.size + 1, 0, none⟩ (.slice (some ⟨g, 0, none⟩) T.length c)).setCell ⟨w.heap.size + 1, 1, none⟩ (.slice (some ⟨g9, 0, none⟩) R.length c9))) := hide_ (hbd.trans (hu9.below _ hbd.size (fun k e => by omega)))
      have HSd : Hid ((fun w' => w'.cell? ⟨w.heap.size, 0, none⟩ = some (.slice aT T.length cT) ∧ w'.cell? ⟨w.heap.size, 1, none⟩ = some (.slice aR R.length cR)) w9.drew) := hide_ (by
        rw [← hwd]
        have x0 := ks9.cell 0; have x1 := ks9.cell 1
        simp at x0 x1
        exact ⟨x0, x1⟩)
      have s1 := (ks7.later hbE).cell 1
      simp at s1
      have K9 := hide_ kr9
      have HR7 := hide_ r7
      have HR8 := hide_ r8
      have HR9 := hide_ r9
      have HQ := hide_ hQ
      have HCc := hide_ (⟨hc7, hc9⟩ : T.length + 1 ≤ c ∧ R.length + 1 ≤ c9)
      have hcu := fun w' => cutTyp (some ⟨g, 0, none⟩) (T.length + 1) T.length c (by omega) w'
      have hcr := fun w' => cutRt (some ⟨g9, 0, none⟩) (R.length + 1) R.length c9 (by omega) w'
      have hbm := bldRm
      clear r7 t7 m7 ks7 kr7 b7 r8 o8 u8 hbE hb8 ba km o8a r9 o9 u9 hc9 h8a hroot t8 D9 hbd t9 m9 ks9 kr9 o9d hu9 hO HOq hQ hQl hlt hi hc7
      go_upto_region 9 with (first
        | (at_builtin; refine wpList_append_run rfl (.tmp 39) (.tmp 41) 22 22 rfl rfl rfl HR7.out ?_)
        | (at_builtin; refine wpList_append_run rfl (.tmp 43) (.tmp 45) 23 23 rfl rfl rfl HR8.out ?_)
        | (at_builtin; refine wpList_append_run rfl (.tmp 46) (.tmp 48) 23 23 rfl rfl rfl HR9.out ?_))
      clear HR7 HR8 HR9 s1 hbm
      refine wp_region_last 11 (fun w' => w'.cell? ⟨w.heap.size, 0, none⟩ = some (.slice aT T.length cT) ∧ w'.cell? ⟨w.heap.size, 1, none⟩ = some (.slice aR R.length cR)) (by kernel_rfl) (HSd.out) (fun hHeld => ?_)
      refine wpAnyF_take [11] (by kernel_rfl) (i := 0) (v := ?vo1) rfl (by kernel_rfl) (by kernel_rfl) (by kernel_rfl) (fun _ _ _ h => h) (Or.inl ⟨by kernel_rfl, ?hyo1⟩) hHeld ?resto1
      case hyo1 => intro w' hSw; (try dsimp only at hSw); go_simp; try with_reducible rfl
      simp only [Act.put]
      refine wpAnyF_take [11] (by kernel_rfl) (i := 1) (v := ?vo2) rfl (by kernel_rfl) (by kernel_rfl) (by kernel_rfl) (fun _ _ _ h => h) (Or.inl ⟨by kernel_rfl, ?hyo2⟩) hHeld ?resto2
      case hyo2 => intro w' hSw; (try dsimp only at hSw); go_simp; try with_reducible rfl
      simp only [Act.put]
      refine wpAnyF_take [11] (by kernel_rfl) (i := 2) (v := ?vo3) rfl (by kernel_rfl) (by kernel_rfl) (by kernel_rfl) (fun _ _ _ h => h) (Or.inl ⟨by kernel_rfl, ?hyo3⟩) hHeld ?resto3
      case hyo3 => intro w' hSw; (try dsimp only at hSw); go_simp; try with_reducible rfl
      simp only [Act.put]
      refine wpAnyF_take [11] (by kernel_rfl) (i := 3) (v := ?vo4) rfl (by kernel_rfl) (by kernel_rfl) (by kernel_rfl) (fun _ _ _ h => h) (Or.inl ⟨by kernel_rfl, ?hyo4⟩) hHeld ?resto4
      case hyo4 => intro w' hSw; (try dsimp only at hSw); go_simp; try with_reducible rfl
      simp only [Act.put]
      refine wpAnyF_take [11] (by kernel_rfl) (i := 4) (v := ?vo5) rfl (by kernel_rfl) (by kernel_rfl) (by kernel_rfl) (fun _ _ _ h => h) (Or.inl ⟨by kernel_rfl, ?hyo5⟩) hHeld ?resto5
      case hyo5 => intro w' hSw; (try dsimp only at hSw); go_simp; try with_reducible rfl
      simp only [Act.put]
      refine wpAnyF_take [11] (by kernel_rfl) (i := 5) (v := ?vo6) rfl (by kernel_rfl) (by kernel_rfl) (by kernel_rfl) (fun _ _ _ h => h) (Or.inl ⟨by kernel_rfl, ?hyo6⟩) hHeld ?resto6
      case hyo6 => intro w' hSw; (try dsimp only at hSw); go_simp; try with_reducible rfl
      simp only [Act.put]
      refine wpAnyF_take [11] (by kernel_rfl) (i := 6) (v := ?vo7) rfl (by kernel_rfl) (by kernel_rfl) (by kernel_rfl) (fun _ _ _ h => h) (Or.inl ⟨by kernel_rfl, ?hyo7⟩) hHeld ?resto7
      case hyo7 => intro w' hSw; (try dsimp only at hSw); go_simp; try with_reducible rfl
      simp only [Act.put]
      refine wpAnyF_take [11] (by kernel_rfl) (i := 7) (v := ?vo8) rfl (by kernel_rfl) (by kernel_rfl) (by kernel_rfl) (fun _ _ _ h => h) (Or.inl ⟨by kernel_rfl, ?hyo8⟩) hHeld ?resto8
      case hyo8 => intro w' hSw; (try dsimp only at hSw); go_simp; try with_reducible rfl
      simp only [Act.put]
      refine wpAnyF_take [11] (by kernel_rfl) (i := 8) (v := ?vo9) rfl (by kernel_rfl) (by kernel_rfl) (by kernel_rfl) (fun _ _ _ h => h) (Or.inl ⟨by kernel_rfl, ?hyo9⟩) hHeld ?resto9
      case hyo9 => intro w' hSw; (try dsimp only at hSw); go_simp; try with_reducible rfl
      simp only [Act.put]
      refine wpAnyF_take [11] (by kernel_rfl) (i := 9) (v := ?vo10) rfl (by kernel_rfl) (by kernel_rfl) (by kernel_rfl) (fun _ _ _ h => h) (Or.inl ⟨by kernel_rfl, ?hyo10⟩) hHeld ?resto10
      case hyo10 => intro w' hSw; (try dsimp only at hSw); go_simp; try with_reducible rfl
      simp only [Act.put]
      refine wpAnyF_take [11] (by kernel_rfl) (i := 10) (v := ?vo11) rfl (by kernel_rfl) (by kernel_rfl) (by kernel_rfl) (fun _ _ _ h => h) (Or.inl ⟨by kernel_rfl, ?hyo11⟩) hHeld ?resto11
      case hyo11 => intro w' hSw; (try dsimp only at hSw); go_simp; try with_reducible rfl
      simp only [Act.put]
      refine wpAnyF_ready (rs := [11]) (by kernel_rfl) (by simp) ?_
      refine AllReadyF.last rfl (fun K hK => ?_)
      rw [← hwd]
      clear hwd
      have q0 := K9.out.cell 0; have q1 := K9.out.cell 1; have qz := fun i => K9.out.frozen i
      simp at q0 q1
      go_simp
      refine hK.out _ _ ?_
      clear hK K
      refine wpAnyF_done (by kernel_rfl) ?_ _
      go_wp2_with fail
      refine retSc rfl rfl HKf.out ?_
      exact ⟨_, _, Q, _, _, rfl, HLt, HQ, HCc, HBf⟩
end Go.Proofs.Ytfgdkhmoikkgjaa

/- The law's marked; the document's Find. -/
namespace Go.Proofs.Ytfgdkhmoikkgjaa
open Go.RowKit
set_option linter.unusedVariables false

theorem bldPm (w : World) : (Instr.build 53 #[(0, .string ⟨#[109, 97, 114, 107]⟩), (1, .int .i64 7)]).run Try.prog w = .ok (.agg #[.string ⟨#[109, 97, 114, 107]⟩, .int .i64 7, .int .i64 0]) w := by kernel_rfl
set_option maxRecDepth 100000 in
set_option maxHeartbeats 8000000 in
theorem marked_any (B gT cT gR cR : Nat) (Q : List (Ty × Value)) (T : List Ty) (R : List Rt) (w : World) (hn : T.length ≤ 2932031007401) (hm : R.length ≤ 5864062014634) (hpl : Hid (∀ t ∈ T, t.ps.length ≤ 4398046510976)) (hQ : Hid (Q.map (·.1) = T)) (hc : T.length + 1 ≤ cT ∧ R.length + 1 ≤ cR) (hL : Hid (LtO w B gT cT Q (.slice (some ⟨gR, 0, none⟩) (R.length + 1) cR) (R ++ [mkR]))) :
    Calls Try.prog 10 #[.agg #[.slice (some ⟨gT, 0, none⟩) T.length cT, .slice (some ⟨gR, 0, none⟩) R.length cR]] w fun e w' => e = .returned (.bool true) ∧ Below w.heap.size w w' := by
  have hQl : Q.length = T.length := by have := congrArg List.length hQ.out; simpa using this
  obtain ⟨w1, hw1⟩ : ∃ wx, wx = w.alloc (.cells #[.slice (some ⟨gT, 0, none⟩) T.length cT, .slice (some ⟨gR, 0, none⟩) R.length cR] 25) := ⟨_, rfl⟩
  have hB1 : Below w.heap.size w w1 := by rw [hw1]; exact below1 _ _
  have ks : Blk w1 w.heap.size 25 [.slice (some ⟨gT, 0, none⟩) T.length cT, .slice (some ⟨gR, 0, none⟩) R.length cR] := by rw [hw1]; exact Blk.newA w _ _
  have L1 := hL.out.later hB1
  have hmT := (L1.ty.at4 (i := T.length) (p := (mkT, .slice none 0 0)) (by rw [← hQl]; simp)).1
  obtain ⟨hcA, hcB⟩ := hc
  have hcA' : (T.length : Int) + 1 ≤ (cT : Int) := by omega
  have hcB' : (R.length : Int) + 1 ≤ (cR : Int) := by omega
  have hrR : RRow w1 (some ⟨gR, 0, none⟩) (R ++ [mkR]) := rown_row L1.rt
  have s0 := ks.cell 0; have s1 := ks.cell 1
  simp at s0 s1
  obtain ⟨x0, x1⟩ : w1.cell? ⟨gR, R.length * 2, none⟩ = some (.string ⟨#[109, 97, 114, 107]⟩) ∧ w1.cell? ⟨gR, R.length * 2 + 1, none⟩ = some (.int .i64 7) := by
    rcases hrR with h | ⟨b, o, e, hb, hcx⟩
    · simp at h
    · injection e with e
      injection e with e1 e2 _
      subst e1 e2
      have h0 := hcx R.length mkR (by simp) 0 (by decide)
      have h1 := hcx R.length mkR (by simp) 1 (by decide)
      simpa [rtc, mkR] using And.intro h0 h1
  have hmT' : w1.cell? ⟨gT, T.length * 4, none⟩ = some (.int .i64 77) := by simpa [mkT] using hmT
  have HL1 := hide_ L1
  have HB1 := hide_ hB1
  have hbp := bldPm; have hbr := bldRm
  clear hmT hrR L1 hB1 ks hL
  go_enter Try.func10, Try.ntmps10
  go_upto_region 1 with fail
  rw [← hw1]
  clear hw1
  go_wp2_with fail
  go_loopw [4] (fun x4 wr => ∃ i : Nat, i ≤ T.length ∧ x4 = .int .i64 (i : Int) ∧ w1 = wr) (fun x4 _ => T.length - (intOf x4).toNat)
  case atStart => exact ⟨0, Nat.zero_le _, rfl, rfl⟩
  case round =>
    obtain ⟨i, hi, rfl, rfl⟩ := hrel
    by_cases hlt : i < T.length
    · have hlt' : (i : Int) < (T.length : Int) := by omega
      obtain ⟨p, hp⟩ : ∃ p, Q[i]? = some p := ⟨_, List.getElem?_eq_getElem (by omega)⟩
      obtain ⟨t, u⟩ := p
      have htl : t.ps.length ≤ 4398046510976 := hpl.out t (by rw [← hQ.out]; exact List.mem_map.2 ⟨_, List.mem_of_getElem? hp, rfl⟩)
      obtain ⟨-, -, -, hc3⟩ := HL1.out.ty.at4 (i := i) (p := (t, u)) (by rw [List.getElem?_append_left (by omega)]; exact hp)
      obtain ⟨g2, c2, e2, hc2, hr2, -, -⟩ := HL1.out.mks _ (List.mem_of_getElem? hp)
      dsimp only at e2 hc3 hr2 hc2
      subst e2
      have hc2' : (t.ps.length : Int) + 1 ≤ (c2 : Int) := by omega
      obtain ⟨y0, y1, y2⟩ : w1.cell? ⟨g2, t.ps.length * 3, none⟩ = some (.string ⟨#[109, 97, 114, 107]⟩) ∧ w1.cell? ⟨g2, t.ps.length * 3 + 1, none⟩ = some (.int .i64 7) ∧ w1.cell? ⟨g2, t.ps.length * 3 + 2, none⟩ = some (.int .i64 0) := by
        rcases hr2 with h | ⟨b, o, e, hb, hcx⟩
        · simp at h
        · injection e with e
          injection e with e1 e2 _
          subst e1 e2
          have h0 := hcx t.ps.length mkP (by simp) 0 (by decide)
          have h1 := hcx t.ps.length mkP (by simp) 1 (by decide)
          have h2 := hcx t.ps.length mkP (by simp) 2 (by decide)
          simpa [ptc, mkP] using And.intro h0 (And.intro h1 h2)
      clear hr2 hp
      go_wp2_with fail
      go_roundw
      case rel => exact ⟨i + 1, by omega, by go_num, by trivial⟩
      case measure => simp [intOf]; omega
    · obtain rfl : i = T.length := by omega
      have hlt' : ¬ ((T.length : Int) < (T.length : Int)) := by omega
      go_wp2_with fail
      go_ret
      exact ⟨rfl, HB1.out⟩
set_option maxRecDepth 100000 in
set_option maxHeartbeats 8000000 in
theorem findR_any (vt : Value) (a : Option Addr) (c : Nat) (R : List Rt) (s : ByteArray) (w : World) (hD : R.length ≤ 9223372036854775806) (r : Hid (RRow w a R)) :
    Calls Try.prog 9 #[.agg #[vt, .slice a R.length c], .string s] w fun e w' => e = .returned (.tuple #[.int .i64 (fndN R s), .int .i64 (fndEz R s)]) ∧ Below w.heap.size w w' := by
  have hB := below1 w (.cells #[vt, .slice a R.length c] 25)
  have kx := Blk.newA w #[vt, .slice a R.length c] 25
  obtain ⟨w0, hw0⟩ : ∃ wx, wx = w.alloc (.cells #[vt, .slice a R.length c] 25) := ⟨_, rfl⟩
  rw [← hw0] at hB kx
  have HB0 := hide_ hB
  have s1 := kx.cell 1
  simp at s1
  clear hB kx
  go_enter Try.func9, Try.ntmps9
  go_upto_region 1 with fail
  rw [← hw0]
  clear hw0
  go_wp2_with fail
  go_loopw [6] (fun x6 wr => ∃ i : Nat, i ≤ R.length ∧ x6 = .int .i64 (i : Int) ∧ Hid (∀ (j : Nat) (q : Rt), j < i → R[j]? = some q → ¬ q.name = s) ∧ w0 = wr) (fun x6 _ => R.length - (intOf x6).toNat)
  case atStart => exact ⟨0, Nat.zero_le _, rfl, hide_ (fun j q hj => by omega), rfl⟩
  case round =>
    obtain ⟨i, hi, rfl, HN, rfl⟩ := hrel
    by_cases hlt : i < R.length
    · have hlt' : (i : Int) < R.length := by omega
      obtain ⟨b, o, rfl, hb, hc⟩ := (r.out.later HB0.out).open (by omega)
      have hx : R[i]? = some (R[i]'hlt) := List.getElem?_eq_getElem hlt
      have hcx := hc i _ hx
      have HX := hide_ hx
      generalize R[i]'hlt = d at *
      have i0 := hcx 0 (by decide); have i1 := hcx 1 (by decide)
      simp [rtc] at i0 i1
      clear hc hx hcx
      by_cases he : d.name = s
      · have hs : (d.name.toList == s.toList) = true := by rw [he]; simp
        have HV : Hid (findR R s = i) := hide_ (findR_at HX.out he HN.out)
        clear he
        go_wp2_with fail
        go_ret2
        exact ⟨by unfold fndN fndEz; rw [HV.out, if_neg (by omega), if_neg (by omega)]; rfl, HB0.out⟩
      · have hs : (d.name.toList == s.toList) = false := by rw [str_eqz]; exact decide_eq_false he
        have HN2 : Hid (∀ (j : Nat) (q : Rt), j < i + 1 → R[j]? = some q → ¬ q.name = s) := hide_ (fun j q hj hq => by
          rcases Nat.lt_or_ge j i with h | h
          · exact HN.out j q h hq
          · obtain rfl : j = i := by omega
            rw [HX.out] at hq
            injection hq with hq
            subst hq
            exact he)
        clear he HN
        go_wp2_with fail
        go_roundw
        case rel => exact ⟨i + 1, by omega, by go_num, HN2, by trivial⟩
        case measure => simp [intOf]; omega
    · obtain rfl : i = R.length := by omega
      have hlt' : ¬ ((R.length : Int) < (R.length : Int)) := by omega
      have HV : Hid (findR R s = R.length) := hide_ (findR_none (fun j q hq => HN.out j q (List.getElem?_eq_some_iff.1 hq).1 hq))
      go_wp2_with fail
      go_ret2
      exact ⟨by unfold fndN fndEz; rw [HV.out, if_pos rfl, if_pos rfl]; rfl, HB0.out⟩
end Go.Proofs.Ytfgdkhmoikkgjaa
