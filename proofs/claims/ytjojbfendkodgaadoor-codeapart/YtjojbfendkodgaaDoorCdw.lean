/- Code: awake. -/
import Derived.Test.YtjojbfendkodgaaDoorCdv
import Derived.Test.YtjojbfendkodgaaDoorRgf
namespace Go.Proofs.YtjojbfendkodgaaDoor
open Go.RowKit
set_option linter.unusedVariables false

theorem Sm.later {B : Nat} {w w' : World} {C : List In} {v u : Value} (h : Sm B w C v u) (hB : Below w.heap.size w w') : Sm B w' C v u := by
  obtain ⟨g, g', e1, e2, h1, h2, h3, h4⟩ := h.ex
  exact ⟨g, g', e1, e2, h1, h2, h3.later hB, h4.later hB⟩
theorem smRow {w : World} {g : Nat} {C : List In} (h : Blk w g 28 (cellsG inc C)) : IRow w (some ⟨g, 0, none⟩) C := blk_grow inc_len h
theorem e0Row {w : World} {g : Nat} (h : Blk w g 3 [.int .i64 0]) : Row .i64 w (some ⟨g, 0, none⟩) [0] := Blk.row (l := [0]) h
theorem TabB.at {w w' : World} (h : TabB w.heap.size w) (hB : Below w.heap.size w w') : TabB w'.heap.size w' := fun w'' hb => h w'' (below_to hB hb)
set_option maxRecDepth 100000 in
set_option maxHeartbeats 8000000 in
theorem awake_any (w : World) (HT : Hid (TabB w.heap.size w)) : Calls Tryd.prog 9 #[] w fun e w' => e = .returned (.bool true) ∧ Below w.heap.size w w' := by
  have HS1 := hide_ (small_any w)
  go_enter Tryd.func9, Tryd.ntmps9
  go_wp2_with fail
  refine HS1.out.mono ?_
  rintro e w1 ⟨⟨v, u, rfl, HSm⟩, hB1⟩
  obtain ⟨g, g', rfl, rfl, hg, hg', hk, hk'⟩ := HSm.out.ex
  obtain ⟨w2, hw2⟩ : ∃ wx, wx = w1.alloc (.cells #[.bool false, .slice (some ⟨g, 0, none⟩) 2 2, .slice (some ⟨g', 0, none⟩) 1 1] 26) := ⟨_, rfl⟩
  have hB2 : Below w1.heap.size w1 w2 := by rw [hw2]; exact below1 _ _
  have KP : Hid (Blk w2 w1.heap.size 26 [.bool false, .slice (some ⟨g, 0, none⟩) 2 2, .slice (some ⟨g', 0, none⟩) 1 1]) := hide_ (by rw [hw2]; exact Blk.newA w1 _ _)
  have HB2 := hide_ (below_to hB1 hB2)
  have KC := hide_ (hk.later hB2)
  have KE := hide_ (hk'.later hB2)
  have HG2 : Hid (g < w2.heap.size) := hide_ KC.out.lt
  have HEn := hide_ (encode_any false (some ⟨g, 0, none⟩) (some ⟨g', 0, none⟩) 2 1 smC [0] w2 (by decide) (by omega) (by decide) (by decide) (by decide) (hide_ (smRow KC.out)) (hide_ (e0Row KE.out)))
  rw [sm_chk, sm_enc] at HEn
  have p0 := KP.out.cell 0; have p1 := KP.out.cell 1; have p2 := KP.out.cell 2
  simp at p0 p1 p2
  clear hB1 hB2 hk hk' HS1 HSm
  go_upto_region 2 with fail
  rw [← hw2]
  clear hw2
  go_wp2_with fail
  refine HEn.out.mono ?_
  rintro e w3 ⟨⟨vb, rfl, HOb⟩, hB3⟩
  obtain ⟨w4, hw4⟩ : ∃ wx, wx = w3.alloc (.cells #[.int .i64 0, .int .i64 0] 32) := ⟨_, rfl⟩
  have hB4 : Below w3.heap.size w3 w4 := by rw [hw4]; exact below1 _ _
  have KF3 : Hid (Blk w4 w3.heap.size 32 [.int .i64 0, .int .i64 0]) := hide_ (by rw [hw4]; exact Blk.newA w3 _ _)
  have hB24 := below_to hB3 hB4
  have HB4 := hide_ (below_to HB2.out hB24)
  have HZ24 : Hid (w2.heap.size ≤ w4.heap.size) := hide_ hB24.size
  have KP4 := hide_ (KP.out.later hB24)
  have KC4 := hide_ (KC.out.later hB24)
  have KE4 := hide_ (KE.out.later hB24)
  have HOb4 := hide_ (HOb.out.later hB4)
  obtain ⟨ab, cb, hvb, hrb, hnb, hlb, hmb, hgb⟩ := own_open (n := 9) HOb4.out rfl
  obtain ⟨gb, rfl, hgb1, hgb2, -, -⟩ := hgb (by decide)
  subst hvb
  have HDe := hide_ (decode_any (some ⟨gb, 0, none⟩) cb [109, 0, 1, 0, 2, 1, 0, 3, 20] w4 hlb (by decide) hnb (hide_ (by unfold Bys; decide)) (hide_ hrb) (hide_ (fun x hx _ => by injection hx with hx; subst hx; exact hgb2)))
  have HRb := hide_ hrb
  rw [sm_decF, sm_dec.1, sm_dec.2.1, sm_dec.2.2] at HDe
  clear hB3 hB4 hB24 HEn p0 p1 p2 HOb KP KC KE
  go_upto_region 3 with fail
  rw [← hw4]
  clear hw4
  go_wp2_with fail
  refine HDe.out.mono ?_
  rintro e w5 ⟨vX, vN, rfl, HoX, HoN, hB5⟩
  obtain ⟨gX, cX, ysX, hvX, hbX, -⟩ := ownS_blk (n := 2) (show w5.ownsRow w4.heap.size 28 4 vX 2 (cellsG inc smC) from HoX.out) (by decide)
  subst hvX
  obtain ⟨aX', cX', eX, hcX, -, hrX⟩ := HoX.out.row
  injection eX with eX1 eX2 eX3
  subst eX1 eX3
  clear eX2
  obtain ⟨aN, cN, hvN, hrN, -, -, -, hgN⟩ := own_open (n := 1) HoN.out rfl
  obtain ⟨gN, rfl, hbN, -⟩ := hgN (by decide)
  subst hvN
  obtain ⟨w6, hw6⟩ : ∃ wx, wx = (w5.alloc (.cells #[.bool false, .slice (some ⟨gX, 0, none⟩) 2 cX, .slice (some ⟨gN, 0, none⟩) 1 cN] 26)).alloc (.cells #[.int .i64 0, .int .i64 0] 32) := ⟨_, rfl⟩
  have hB6 : Below w5.heap.size w5 w6 := by rw [hw6]; exact below2 _ _ _
  obtain ⟨kq, kf⟩ := blk2 w5 #[.bool false, .slice (some ⟨gX, 0, none⟩) 2 cX, .slice (some ⟨gN, 0, none⟩) 1 cN] #[.int .i64 0, .int .i64 0] 26 32
  rw [← hw6] at kq kf
  have hB46 := below_to hB5 hB6
  have HB6 := hide_ (below_to HB4.out hB46)
  have KP6 := hide_ (KP4.out.later hB46)
  have KC6 := hide_ (KC4.out.later hB46)
  have KE6 := hide_ (KE4.out.later hB46)
  have KF6 := hide_ (KF3.out.later hB46)
  have KQ6 := hide_ kq
  have KG6 := hide_ kf
  have HRX6 := hide_ (GRow.later hrX hB6)
  have HRN6 := hide_ (Row.later hrN hB6)
  have HRb6 := hide_ (Row.later HRb.out hB46)
  have HPr := hide_ (print_any false (some ⟨g, 0, none⟩) (some ⟨g', 0, none⟩) 2 1 smC [0] w6 (by decide) (by omega) (by decide) (by decide) (by decide) (hide_ (smRow KC6.out)) (hide_ (e0Row KE6.out)) (hide_ (TabB.at HT.out HB6.out)))
  rw [sm_chk, sm_prn] at HPr
  have hgX : Hid (¬ gX = g ∧ ¬ gN = g ∧ ¬ gb = g) := hide_ (by have h1 := HG2.out; have h2 := HZ24.out; omega)
  have p0 := KP6.out.cell 0; have p1 := KP6.out.cell 1; have p2 := KP6.out.cell 2
  simp at p0 p1 p2
  clear hB5 hB6 hB46 kq kf KP4 KC4 KE4 KF3 HoX HoN hrX hrN HDe HOb4 HRb
  go_upto_region 4 with fail
  rw [← hw6]
  clear hw6
  go_wp2_with fail
  refine HPr.out.mono ?_
  rintro e w7 ⟨rfl, hB7⟩
  obtain ⟨w8, hw8⟩ : ∃ wx, wx = w7.alloc (.cells #[.int .i64 0, .int .i64 0] 32) := ⟨_, rfl⟩
  have hB8 : Below w7.heap.size w7 w8 := by rw [hw8]; exact below1 _ _
  have KH8 : Hid (Blk w8 w7.heap.size 32 [.int .i64 0, .int .i64 0]) := hide_ (by rw [hw8]; exact Blk.newA w7 _ _)
  have hB68 := below_to hB7 hB8
  have HB8 := hide_ (below_to HB6.out hB68)
  have KP8 := hide_ (KP6.out.later hB68)
  have KC8 := hide_ (KC6.out.later hB68)
  have KE8 := hide_ (KE6.out.later hB68)
  have KF8 := hide_ (KF6.out.later hB68)
  have KQ8 := hide_ (KQ6.out.later hB68)
  have KG8 := hide_ (KG6.out.later hB68)
  have HRX8 := hide_ (GRow.later HRX6.out hB68)
  have HRN8 := hide_ (Row.later HRN6.out hB68)
  have HRb8 := hide_ (Row.later HRb6.out hB68)
  obtain ⟨w9, hw9⟩ : ∃ wx, wx = w8.setCell ⟨g, 2, none⟩ (.int .i64 3) := ⟨_, rfl⟩
  have hU9 : Upd (fun k => k = g) w8 w9 := by rw [hw9]; exact (Upd.refl _ w8).set _ _ (.inl rfl)
  have KC9 : Hid (Blk w9 g 28 (cellsG inc smB)) := hide_ (by rw [hw9]; exact KC8.out.set 2 (.int .i64 3))
  have hn : ∀ {k : Nat} {t : TypeId} {ys : List Value}, Blk w8 k t ys → t ≠ 28 → Blk w9 k t ys := fun h ht => h.upd hU9 (fun e => ht (by subst e; exact blk_type h KC8.out))
  have KP9 := hide_ (hn KP8.out (by decide))
  have KE9 := hide_ (hn KE8.out (by decide))
  have KF9 := hide_ (hn KF8.out (by decide))
  have KQ9 := hide_ (hn KQ8.out (by decide))
  have KG9 := hide_ (hn KG8.out (by decide))
  have KH9 := hide_ (hn KH8.out (by decide))
  have HRX9 := hide_ (GRow.upd HRX8.out hU9 (fun x hx => by injection hx with hx; subst hx; exact hgX.out.1))
  have HB9 : Hid (Below w.heap.size w w9) := hide_ (HB8.out.trans (hU9.below _ HB8.out.size (fun k e => by subst e; exact hg)))
  have HRN9 : Hid (Row .i64 w9 (some ⟨gN, 0, none⟩) [0]) := hide_ (HRN8.out.upd hU9 (fun x hx => by injection hx with hx; subst hx; exact hgX.out.2.1))
  have HRb9 : Hid (Row .u8 w9 (some ⟨gb, 0, none⟩) [109, 0, 1, 0, 2, 1, 0, 3, 20]) := hide_ (HRb8.out.upd hU9 (fun x hx => by injection hx with hx; subst hx; exact hgX.out.2.2))
  have c0 := KC8.out.cell 2; have cz := KC8.out.frozen 2
  clear p0 p1 p2
  have p1 := KP8.out.cell 1
  simp [cellsG, smC, inc] at c0 p1
  clear hB7 hB8 hB68 HPr hU9
  go_upto_region 5 with fail
  rw [← hw8]
  clear hw8
  go_upto_region 6 with fail
  rw [← hw9]
  clear hw9 c0 cz p1
  have HS2 := hide_ (small_any w9)
  go_wp2_with fail
  refine HS2.out.mono ?_
  rintro e wa ⟨⟨v2, u2, rfl, HSm2⟩, hBa⟩
  obtain ⟨s1, s2, rfl, rfl, -, -, hk1, hk2⟩ := HSm2.out.ex
  have HBa := hide_ hBa
  have HCk := hide_ (check_any false (some ⟨s1, 0, none⟩) (some ⟨s2, 0, none⟩) 2 1 smC [0] wa (by decide) (by omega) (by decide) (by decide) (by decide) (hide_ (smRow hk1)) (hide_ (e0Row hk2)))
  rw [sm_chk] at HCk
  clear hBa hk1 hk2 HS2 HSm2
  go_wp2_with fail
  refine HCk.out.mono ?_
  rintro e wb ⟨rfl, hBb⟩
  have HIs := hide_ (fun (e a x y : Int) w' => is_any e a x y w')
  have HBb := hide_ (below_to HBa.out hBb)
  clear hBb HCk HBa
  go_wp2_with fail
  refine (HIs.out 0 0 0 0 _).mono ?_
  rintro e wc ⟨rfl, hBc⟩
  have HBc := hide_ (below_to HBb.out hBc)
  have KPc := hide_ (KP9.out.later HBc.out)
  have HCk2 := hide_ (check_any false (some ⟨g, 0, none⟩) (some ⟨g', 0, none⟩) 2 1 smB [0] wc (by decide) (by omega) (by decide) (by decide) (by decide) (hide_ (smRow (KC9.out.later HBc.out))) (hide_ (e0Row (KE9.out.later HBc.out))))
  rw [smB_chk] at HCk2
  have q0 := KPc.out.cell 0; have q1 := KPc.out.cell 1; have q2 := KPc.out.cell 2
  simp at q0 q1 q2
  clear hBc HBb
  go_wp2_with fail
  refine HCk2.out.mono ?_
  rintro e wd ⟨rfl, hBd⟩
  have HBd := hide_ (below_to HBc.out hBd)
  clear hBd HCk2 HBc q0 q1 q2 KPc
  go_wp2_with fail
  refine (HIs.out 140 0 140 0 _).mono ?_
  rintro e we ⟨rfl, hBe⟩
  have HBe := hide_ (below_to HBd.out hBe)
  have f0 := (KF9.out.later HBe.out).cell 0; have f1 := (KF9.out.later HBe.out).cell 1
  simp at f0 f1
  clear hBe HBd
  go_wp2_with fail
  refine (HIs.out 0 0 0 0 _).mono ?_
  rintro e wf ⟨rfl, hBf⟩
  have HBf := hide_ (below_to HBe.out hBf)
  clear f0 f1 hBf HBe
  have f0 := (KG9.out.later HBf.out).cell 0; have f1 := (KG9.out.later HBf.out).cell 1
  simp at f0 f1
  go_wp2_with fail
  refine (HIs.out 0 0 0 0 _).mono ?_
  rintro e wg ⟨rfl, hBg⟩
  have HBg := hide_ (below_to HBf.out hBg)
  clear f0 f1 hBg HBf
  have f0 := (KH9.out.later HBg.out).cell 0; have f1 := (KH9.out.later HBg.out).cell 1
  simp at f0 f1
  go_upto_region 8 with (go_at_call 10; refine (HIs.out 0 0 0 0 _).mono ?_; rintro e wh ⟨rfl, hBh⟩)
  have HBh := hide_ (below_to HBg.out hBh)
  clear f0 f1 hBh HBg HIs
  have KPh := hide_ (KP9.out.later HBh.out)
  have KCh := hide_ (KC9.out.later HBh.out)
  have KEh := hide_ (KE9.out.later HBh.out)
  have KQh := hide_ (KQ9.out.later HBh.out)
  have HRXh := hide_ (GRow.later HRX9.out HBh.out)
  have HRNh := hide_ (Row.later HRN9.out HBh.out)
  have HRbh := hide_ (Row.later HRb9.out HBh.out)
  have HBB := hide_ (below_to HB9.out HBh.out)
  clear KP9 KC9 KE9 KF9 KQ9 KG9 KH9 HRX9 HRN9 HRb9 HBh
  have HCv : Hid (∀ w', Below wh.heap.size wh w' → (convert 34 9 (.slice (some ⟨gb, 0, none⟩) 9 cb)).run Tryd.prog w' = .ok (.string ⟨#[109, 0, 1, 0, 2, 1, 0, 3, 20]⟩) w') := hide_ (fun w' hb => conv_row E23 Tryd.underlying9 w' (some ⟨gb, 0, none⟩) _ cb [109, 0, 1, 0, 2, 1, 0, 3, 20] rfl (Row.later HRbh.out hb))
  have HSS : Hid (∀ w', Below wh.heap.size wh w' → (fun w' => w'.cell? ⟨w1.heap.size, 0, none⟩ = some (.bool false) ∧ w'.cell? ⟨w1.heap.size, 1, none⟩ = some (.slice (some ⟨g, 0, none⟩) 2 2) ∧ w'.cell? ⟨w1.heap.size, 2, none⟩ = some (.slice (some ⟨g', 0, none⟩) 1 1) ∧ w'.cell? ⟨w5.heap.size, 0, none⟩ = some (.bool false) ∧ w'.cell? ⟨w5.heap.size, 1, none⟩ = some (.slice (some ⟨gX, 0, none⟩) 2 cX) ∧ w'.cell? ⟨w5.heap.size, 2, none⟩ = some (.slice (some ⟨gN, 0, none⟩) 1 cN) ∧ (convert 34 9 (.slice (some ⟨gb, 0, none⟩) 9 cb)).run Tryd.prog w' = .ok (.string ⟨#[109, 0, 1, 0, 2, 1, 0, 3, 20]⟩) w') w') := hide_ (fun w' hb => ⟨(KPh.out.later hb).cell 0, (KPh.out.later hb).cell 1, (KPh.out.later hb).cell 2, (KQh.out.later hb).cell 0, (KQh.out.later hb).cell 1, (KQh.out.later hb).cell 2, HCv.out w' hb⟩)
  have HS3 := hide_ (small_any wh.drew)
  have HE1 : Hid (∀ (w' : World) (s1 s2 : Nat), Below wh.heap.size wh w' → Blk w' s1 28 (cellsG inc smC) → Blk w' s2 3 [.int .i64 0] → Calls Tryd.prog 14 #[.agg #[.bool false, .slice (some ⟨gX, 0, none⟩) 2 cX, .slice (some ⟨gN, 0, none⟩) 1 cN], .agg #[.bool false, .slice (some ⟨s1, 0, none⟩) 2 2, .slice (some ⟨s2, 0, none⟩) 1 1]] w' fun e w'' => e = .returned (.bool true) ∧ Below w'.heap.size w' w'') := hide_ (fun w' s1 s2 hb h1 h2 => by
    have := equal_any false false (some ⟨gX, 0, none⟩) (some ⟨s1, 0, none⟩) (some ⟨gN, 0, none⟩) (some ⟨s2, 0, none⟩) cX 2 cN 1 smC smC [0] [0] w' (by decide) (by decide) (by decide) (by decide) (hide_ (GRow.later HRXh.out hb)) (hide_ (smRow h1)) (hide_ (Row.later HRNh.out hb)) (hide_ (e0Row h2))
    rw [sm_eq] at this
    exact this)
  have HE2 : Hid (∀ (w' : World), Below wh.heap.size wh w' → Calls Tryd.prog 14 #[.agg #[.bool false, .slice (some ⟨gX, 0, none⟩) 2 cX, .slice (some ⟨gN, 0, none⟩) 1 cN], .agg #[.bool false, .slice (some ⟨g, 0, none⟩) 2 2, .slice (some ⟨g', 0, none⟩) 1 1]] w' fun e w'' => e = .returned (.bool false) ∧ Below w'.heap.size w' w'') := hide_ (fun w' hb => by
    have := equal_any false false (some ⟨gX, 0, none⟩) (some ⟨g, 0, none⟩) (some ⟨gN, 0, none⟩) (some ⟨g', 0, none⟩) cX 2 cN 1 smC smB [0] [0] w' (by decide) (by decide) (by decide) (by decide) (hide_ (GRow.later HRXh.out hb)) (hide_ (smRow (KCh.out.later hb))) (hide_ (Row.later HRNh.out hb)) (hide_ (e0Row (KEh.out.later hb)))
    rw [sm_ne] at this
    exact this)
  refine wp_region_last 18 (fun w' => w'.cell? ⟨w1.heap.size, 0, none⟩ = some (.bool false) ∧ w'.cell? ⟨w1.heap.size, 1, none⟩ = some (.slice (some ⟨g, 0, none⟩) 2 2) ∧ w'.cell? ⟨w1.heap.size, 2, none⟩ = some (.slice (some ⟨g', 0, none⟩) 1 1) ∧ w'.cell? ⟨w5.heap.size, 0, none⟩ = some (.bool false) ∧ w'.cell? ⟨w5.heap.size, 1, none⟩ = some (.slice (some ⟨gX, 0, none⟩) 2 cX) ∧ w'.cell? ⟨w5.heap.size, 2, none⟩ = some (.slice (some ⟨gN, 0, none⟩) 1 cN) ∧ (convert 34 9 (.slice (some ⟨gb, 0, none⟩) 9 cb)).run Tryd.prog w' = .ok (.string ⟨#[109, 0, 1, 0, 2, 1, 0, 3, 20]⟩) w') (by kernel_rfl) (HSS.out _ ((Below.refl wh.heap.size wh).drew)) (fun hHeld => ?_)
  refine wpAnyF_take [18] (by kernel_rfl) (i := 0) (v := ?vf1) rfl (by kernel_rfl) (by kernel_rfl) (by kernel_rfl) (fun _ _ _ h => h) (Or.inl ⟨by kernel_rfl, ?hyf1⟩) hHeld ?restf1
  case hyf1 => intro w' hSw; (try dsimp only at hSw); go_simp; try with_reducible rfl
  simp only [Act.put]
  refine wpAnyF_take [18] (by kernel_rfl) (i := 1) (v := ?vf2) rfl (by kernel_rfl) (by kernel_rfl) (by kernel_rfl) (fun _ _ _ h => h) (Or.inl ⟨by kernel_rfl, ?hyf2⟩) hHeld ?restf2
  case hyf2 => intro w' hSw; (try dsimp only at hSw); go_simp; try with_reducible rfl
  simp only [Act.put]
  refine wpAnyF_take [18] (by kernel_rfl) (i := 2) (v := ?vf3) rfl (by kernel_rfl) (by kernel_rfl) (by kernel_rfl) (fun _ _ _ h => h) (Or.inl ⟨by kernel_rfl, ?hyf3⟩) hHeld ?restf3
  case hyf3 => intro w' hSw; (try dsimp only at hSw); go_simp; try with_reducible rfl
  simp only [Act.put]
  refine wpAnyF_take [18] (by kernel_rfl) (i := 3) (v := ?vf4) rfl (by kernel_rfl) (by kernel_rfl) (by kernel_rfl) (fun _ _ _ h => h) (Or.inl ⟨by kernel_rfl, ?hyf4⟩) hHeld ?restf4
  case hyf4 => intro w' hSw; (try dsimp only at hSw); go_simp; try with_reducible rfl
  simp only [Act.put]
  refine wpAnyF_take [18] (by kernel_rfl) (i := 4) (v := ?vf5) rfl (by kernel_rfl) (by kernel_rfl) (by kernel_rfl) (fun _ _ _ h => h) (Or.inl ⟨by kernel_rfl, ?hyf5⟩) hHeld ?restf5
  case hyf5 => intro w' hSw; (try dsimp only at hSw); go_simp; try with_reducible rfl
  simp only [Act.put]
  refine wpAnyF_ready (rs := [5]) (by kernel_rfl) (by simp) ?_
  refine AllReadyF.cons rfl (fun K hK => ?_) AllReadyF.nil
  go_simp
  refine HS3.out.mono ?_
  rintro e wi ⟨⟨v3, u3, rfl, HSm3⟩, hBi⟩
  obtain ⟨s1, s2, rfl, rfl, -, -, hk1, hk2⟩ := HSm3.out.ex
  dsimp only
  have HBi := hide_ (((Below.refl wh.heap.size wh).drew).trans hBi)
  have HK1 := hide_ hk1
  have HK2 := hide_ hk2
  clear hBi hk1 hk2
  refine hK.out _ _ (HSS.out _ HBi.out) (fun hHeld => ?_)
  clear hK K
  refine wpAnyF_ready (rs := [6]) (by kernel_rfl) (by simp) ?_
  refine AllReadyF.cons rfl (fun K hK => ?_) AllReadyF.nil
  go_simp
  refine (HE1.out _ _ _ HBi.out HK1.out HK2.out).mono ?_
  rintro e wj ⟨rfl, hBj⟩
  dsimp only
  have HBj := hide_ (below_to HBi.out hBj)
  clear hBj
  refine hK.out _ _ (HSS.out _ HBj.out) (fun hHeld => ?_)
  clear hK K
  refine wpAnyF_take [18] (by kernel_rfl) (i := 7) (v := ?vf6) rfl (by kernel_rfl) (by kernel_rfl) (by kernel_rfl) (fun _ _ _ h => h) (Or.inl ⟨by kernel_rfl, ?hyf6⟩) hHeld ?restf6
  case hyf6 => intro w' hSw; (try dsimp only at hSw); go_simp; try with_reducible rfl
  simp only [Act.put]
  refine wpAnyF_take [18] (by kernel_rfl) (i := 8) (v := ?vf7) rfl (by kernel_rfl) (by kernel_rfl) (by kernel_rfl) (fun _ _ _ h => h) (Or.inl ⟨by kernel_rfl, ?hyf7⟩) hHeld ?restf7
  case hyf7 => intro w' hSw; (try dsimp only at hSw); go_simp; try with_reducible rfl
  simp only [Act.put]
  refine wpAnyF_take [18] (by kernel_rfl) (i := 9) (v := ?vf8) rfl (by kernel_rfl) (by kernel_rfl) (by kernel_rfl) (fun _ _ _ h => h) (Or.inl ⟨by kernel_rfl, ?hyf8⟩) hHeld ?restf8
  case hyf8 => intro w' hSw; (try dsimp only at hSw); go_simp; try with_reducible rfl
  simp only [Act.put]
  refine wpAnyF_take [18] (by kernel_rfl) (i := 10) (v := ?vf9) rfl (by kernel_rfl) (by kernel_rfl) (by kernel_rfl) (fun _ _ _ h => h) (Or.inl ⟨by kernel_rfl, ?hyf9⟩) hHeld ?restf9
  case hyf9 => intro w' hSw; (try dsimp only at hSw); go_simp; try with_reducible rfl
  simp only [Act.put]
  refine wpAnyF_ready (rs := [11]) (by kernel_rfl) (by simp) ?_
  refine AllReadyF.cons rfl (fun K hK => ?_) AllReadyF.nil
  go_simp
  refine (HE2.out _ HBj.out).mono ?_
  rintro e wk ⟨rfl, hBk⟩
  dsimp only
  have HBk := hide_ (below_to HBj.out hBk)
  clear hBk
  refine hK.out _ _ (HSS.out _ HBk.out) (fun hHeld => ?_)
  clear hK K
  refine wpAnyF_take [18] (by kernel_rfl) (i := 12) (v := ?vf10) rfl (by kernel_rfl) (by kernel_rfl) (by kernel_rfl) (fun _ _ _ h => h) (Or.inl ⟨by kernel_rfl, ?hyf10⟩) hHeld ?restf10
  case hyf10 => intro w' hSw; (try dsimp only at hSw); go_simp; try with_reducible rfl
  simp only [Act.put]
  refine wpAnyF_take [18] (by kernel_rfl) (i := 13) (v := ?vf11) rfl (by kernel_rfl) (by kernel_rfl) (by kernel_rfl) (fun _ _ _ h => h) (Or.inl ⟨by kernel_rfl, ?hyf11⟩) hHeld ?restf11
  case hyf11 => intro w' hSw; (try dsimp only at hSw); go_simp; try with_reducible rfl
  simp only [Act.put]
  refine wpAnyF_take [18] (by kernel_rfl) (i := 14) (v := ?vf12) rfl (by kernel_rfl) (by kernel_rfl) (by kernel_rfl) (fun _ _ _ h => h) (Or.inl ⟨by kernel_rfl, ?hyf12⟩) hHeld ?restf12
  case hyf12 => intro w' hSw; (try dsimp only at hSw); go_simp; try with_reducible rfl
  simp only [Act.put]
  refine wpAnyF_take [18] (by kernel_rfl) (i := 15) (v := ?vf13) rfl (by kernel_rfl) (by kernel_rfl) (by kernel_rfl) (fun _ _ _ h => h) (Or.inl ⟨by kernel_rfl, ?hyf13⟩) hHeld ?restf13
  case hyf13 => intro w' hSw; (try dsimp only at hSw); go_simp; try with_reducible rfl
  simp only [Act.put]
  refine wpAnyF_take [18] (by kernel_rfl) (i := 16) (v := ?vf14) rfl (by kernel_rfl) (by kernel_rfl) (by kernel_rfl) (fun _ _ _ h => h) (Or.inl ⟨by kernel_rfl, ?hyf14⟩) hHeld ?restf14
  case hyf14 => intro w' hSw; (try dsimp only at hSw); go_simp; try with_reducible rfl
  simp only [Act.put]
  refine wpAnyF_take [18] (by kernel_rfl) (i := 17) (v := ?vf15) rfl (by kernel_rfl) (by kernel_rfl) (by kernel_rfl) (fun _ _ _ h => h) (Or.inl ⟨by kernel_rfl, ?hyf15⟩) hHeld ?restf15
  case hyf15 => intro w' hSw; (try dsimp only at hSw); go_simp; try with_reducible rfl
  simp only [Act.put]
  refine wpAnyF_ready (rs := [18]) (by kernel_rfl) (by simp) ?_
  refine AllReadyF.last rfl (fun K hK => ?_)
  go_simp
  refine hK.out _ _ ?_
  clear hK K
  refine wpAnyF_done (by kernel_rfl) ?_ _
  clear HSS
  go_wp2
  go_ret
  exact ⟨rfl, below_to HBB.out HBk.out⟩
end Go.Proofs.YtjojbfendkodgaaDoor
