import Derived.Test.YteadmiikenpjeaaDoorCdo
import Derived.Test.YteadmiikenpjeaaDoorCdr
import Derived.Test.YteadmiikenpjeaaDoorCdu
import Derived.Test.YteadmiikenpjeaaDoorRgf
import Derived.Test.YteadmiikenpjeaaDoorCdx
import Derived.Test.YteadmiikenpjeaaDoorCmf
import Derived.Test.YteadmiikenpjeaaDoorCme
import Derived.Test.YteadmiikenpjeaaDoorCed
import Derived.Test.YteadmiikenpjeaaDoorRead
import Derived.SizedLaws
import Derived.Test.YteadmiikenpjeaaDoorCrc
import Derived.Test.YteadmiikenpjeaaDoorCmd
import Derived.Test.YteadmiikenpjeaaDoorCmg
import Derived.Test.YteadmiikenpjeaaDoorCdc
import Derived.Test.YteadmiikenpjeaaDoorRows
import Derived.Test.YteadmiikenpjeaaDoorCds
import Derived.WalkKit
import Derived.ProofKit
import Derived.OpenShut
import Derived.Deep.DeepHandedRow
import Derived.Lib.LaidTab
import Derived.Stop.LaidErr
import Derived.Test.YteadmiikenpjeaaDoorCards
import Derived.Test.YteadmiikenpjeaaDoorTie
import Derived.ChangeMaps5
import Derived.Below
import Derived.ShutString
/- Code: the statement's small program; is, num. -/
namespace Go.Proofs.YteadmiikenpjeaaDoor
open Go.RowKit
set_option linter.unusedVariables false

def smC : List In := [⟨1, -1, 2, 0⟩, ⟨20, 0, 0, 0⟩]
def smB : List In := [⟨1, -1, 3, 0⟩, ⟨20, 0, 0, 0⟩]
theorem sm_chk : chk false smC [0] = (0, 0) := by decide +kernel
theorem smB_chk : chk false smB [0] = (140, 0) := by decide +kernel
theorem sm_enc : encA false smC [0] = [109, 0, 1, 0, 2, 1, 0, 3, 20] := by
  unfold encA
  rw [if_pos sm_chk]
  decide +kernel
theorem sm_decF : decF [109, 0, 1, 0, 2, 1, 0, 3, 20] = (0, 0) := by decide +kernel
theorem sm_pgm : (pgm [109, 0, 1, 0, 2, 1, 0, 3, 20]).enc = false ∧ (pgm [109, 0, 1, 0, 2, 1, 0, 3, 20]).E = [0] := by decide +kernel
theorem sm_pgmC : eqL inEq (pgm [109, 0, 1, 0, 2, 1, 0, 3, 20]).C smC = true := by decide +kernel
theorem sm_dec : decE [109, 0, 1, 0, 2, 1, 0, 3, 20] = false ∧ decC [109, 0, 1, 0, 2, 1, 0, 3, 20] = smC ∧ decN [109, 0, 1, 0, 2, 1, 0, 3, 20] = [0] := by
  unfold decE decC decN
  rw [sm_decF]
  exact ⟨sm_pgm.1, (eqL_iff inEq_iff).1 sm_pgmC, sm_pgm.2⟩
def smT : List UInt8 := [100, 101, 99, 111, 100, 101, 114, 10, 116, 121, 112, 101, 32, 48, 32, 48, 10, 48, 32, 117, 105, 110, 116, 32, 45, 32, 50, 10, 49, 32, 114, 101, 116, 10]
theorem sm_prn : prnA false smC [0] = smT := by
  unfold prnA
  rw [if_pos sm_chk]
  decide +kernel
theorem sm_eq : eqP false false smC smC [0] [0] = true := by decide +kernel
theorem sm_ne : eqP false false smC smB [0] [0] = false := by decide +kernel
theorem num_any (n : Int) (w : World) : Calls Tryd.prog 36 #[.int .i64 n] w fun e w' => e = .returned (.int .i64 n) ∧ w = w' := by
  go_enter Tryd.func36, Tryd.ntmps36
  go_wp2
  go_ret
  exact ⟨rfl, rfl⟩
theorem is_any (e a x y : Int) (w : World) : Calls Tryd.prog 11 #[.agg #[.int .i64 e, .int .i64 a], .int .i64 x, .int .i64 y] w fun r w' => r = .returned (.bool (e == x && a == y)) ∧ Below w.heap.size w w' := by
  by_cases h : e = x
  · subst h
    go_enter Tryd.func11, Tryd.ntmps11
    go_wp2_with (go_at_call 36; refine (num_any _ _).mono ?_; rintro e w' ⟨rfl, rfl⟩)
    go_ret
    exact ⟨by simp, below1 _ _⟩
  · have hb : (e == x) = false := by simpa using h
    rw [hb]
    go_enter Tryd.func11, Tryd.ntmps11
    go_wp2_with (go_at_call 36; refine (num_any _ _).mono ?_; rintro e w' ⟨rfl, rfl⟩)
    go_ret
    exact ⟨rfl, below1 _ _⟩
/-- The small program lies here. -/
structure Sm (B : Nat) (w : World) (C : List In) (v u : Value) : Prop where
  ex : ∃ g g', v = .slice (some ⟨g, 0, none⟩) 2 2 ∧ u = .slice (some ⟨g', 0, none⟩) 1 1 ∧ B ≤ g ∧ B ≤ g' ∧ Blk w g 41 (cellsG inc C) ∧ Blk w g' 3 [.int .i64 0]
theorem small_any (w : World) : Calls Tryd.prog 7 #[] w fun e w' => (∃ v u, e = .returned (.agg #[.bool false, v, u]) ∧ Hid (Sm w.heap.size w' smC v u)) ∧ Below w.heap.size w w' := by
  go_enter Tryd.func7, Tryd.ntmps7
  go_wp2
  obtain ⟨k1, k2, k3⟩ := blk3 w #[.bool false, .slice (some ⟨w.heap.size + 1, 0, none⟩) 2 2, .slice (some ⟨w.heap.size + 1 + 1, 0, none⟩) 1 1] #[.int .i64 1, .int .i64 (-1), .int .i64 2, .int .i64 0, .int .i64 20, .int .i64 0, .int .i64 0, .int .i64 0] #[.int .i64 0] 25 41 3
  refine bodyPost_ret (results_cell_row rfl _ _ _ _ #[.bool false, .slice (some ⟨w.heap.size + 1, 0, none⟩) 2 2, .slice (some ⟨w.heap.size + 1 + 1, 0, none⟩) 1 1] _ _ rfl k1 Tryd.underlying25 rfl (by show _ = some 3; kernel_rfl)) rfl ?_
  exact ⟨⟨_, _, rfl, hide_ ⟨w.heap.size + 1, w.heap.size + 1 + 1, rfl, rfl, by omega, by omega, k2, k3⟩⟩, below3 _ _ _ _⟩
end Go.Proofs.YteadmiikenpjeaaDoor
/- Code: awake. -/
namespace Go.Proofs.YteadmiikenpjeaaDoor
open Go.RowKit
set_option linter.unusedVariables false

theorem Sm.later {B : Nat} {w w' : World} {C : List In} {v u : Value} (h : Sm B w C v u) (hB : Below w.heap.size w w') : Sm B w' C v u := by
  obtain ⟨g, g', e1, e2, h1, h2, h3, h4⟩ := h.ex
  exact ⟨g, g', e1, e2, h1, h2, h3.later hB, h4.later hB⟩
theorem smRow {w : World} {g : Nat} {C : List In} (h : Blk w g 41 (cellsG inc C)) : IRow w (some ⟨g, 0, none⟩) C := blk_grow inc_len h
theorem e0Row {w : World} {g : Nat} (h : Blk w g 3 [.int .i64 0]) : Row .i64 w (some ⟨g, 0, none⟩) [0] := Blk.row (l := [0]) h
theorem TabB.at {w w' : World} (h : TabB w.heap.size w) (hB : Below w.heap.size w w') : TabB w'.heap.size w' := fun w'' hb => h w'' (below_to hB hb)
set_option maxRecDepth 100000 in
set_option maxHeartbeats 8000000 in
theorem awake_any (w : World) (HT : Hid (TabB w.heap.size w)) : Calls Tryd.prog 4 #[] w fun e w' => e = .returned (.bool true) ∧ Below w.heap.size w w' := by
  have HS1 := hide_ (small_any w)
  go_enter Tryd.func4, Tryd.ntmps4
  go_wp2_with fail
  refine HS1.out.mono ?_
  rintro e w1 ⟨⟨v, u, rfl, HSm⟩, hB1⟩
  obtain ⟨g, g', rfl, rfl, hg, hg', hk, hk'⟩ := HSm.out.ex
  obtain ⟨w2, hw2⟩ : ∃ wx, wx = w1.alloc (.cells #[.bool false, .slice (some ⟨g, 0, none⟩) 2 2, .slice (some ⟨g', 0, none⟩) 1 1] 25) := ⟨_, rfl⟩
  have hB2 : Below w1.heap.size w1 w2 := by rw [hw2]; exact below1 _ _
  have KP : Hid (Blk w2 w1.heap.size 25 [.bool false, .slice (some ⟨g, 0, none⟩) 2 2, .slice (some ⟨g', 0, none⟩) 1 1]) := hide_ (by rw [hw2]; exact Blk.newA w1 _ _)
  have HB2 := hide_ (below_to hB1 hB2)
  have KC := hide_ (hk.later hB2)
  have KE := hide_ (hk'.later hB2)
  have HG2 : Hid (g < w2.heap.size) := hide_ KC.out.lt
  have HEn := hide_ (encode_any false (some ⟨g, 0, none⟩) (some ⟨g', 0, none⟩) 2 1 smC [0] w2 (by decide) (by omega) (by decide) (by decide) (by decide) (hide_ (smRow KC.out)) (hide_ (e0Row KE.out)))
  rw [sm_chk, sm_enc] at HEn
  have p0 := KP.out.cell 0; have p1 := KP.out.cell 1; have p2 := KP.out.cell 2
  simp at p0 p1 p2
  clear hB1 hB2 hk hk' HS1 HSm
  go_upto_region 2 with fail
  rw [← hw2]
  clear hw2
  go_wp2_with fail
  refine HEn.out.mono ?_
  rintro e w3 ⟨⟨vb, rfl, HOb⟩, hB3⟩
  obtain ⟨w4, hw4⟩ : ∃ wx, wx = w3.alloc (.cells #[.int .i64 0, .int .i64 0] 33) := ⟨_, rfl⟩
  have hB4 : Below w3.heap.size w3 w4 := by rw [hw4]; exact below1 _ _
  have KF3 : Hid (Blk w4 w3.heap.size 33 [.int .i64 0, .int .i64 0]) := hide_ (by rw [hw4]; exact Blk.newA w3 _ _)
  have hB24 := below_to hB3 hB4
  have HB4 := hide_ (below_to HB2.out hB24)
  have HZ24 : Hid (w2.heap.size ≤ w4.heap.size) := hide_ hB24.size
  have KP4 := hide_ (KP.out.later hB24)
  have KC4 := hide_ (KC.out.later hB24)
  have KE4 := hide_ (KE.out.later hB24)
  have HOb4 := hide_ (HOb.out.later hB4)
  obtain ⟨ab, cb, hvb, hrb, hnb, hlb, hmb, hgb⟩ := own_open (n := 9) HOb4.out rfl
  obtain ⟨gb, rfl, hgb1, hgb2, -, -⟩ := hgb (by decide)
  subst hvb
  have HDe := hide_ (decode_any (some ⟨gb, 0, none⟩) cb [109, 0, 1, 0, 2, 1, 0, 3, 20] w4 hlb (by decide) hnb (hide_ (by unfold Bys; decide)) (hide_ hrb) (hide_ (fun x hx _ => by injection hx with hx; subst hx; exact hgb2)))
  have HRb := hide_ hrb
  rw [sm_decF, sm_dec.1, sm_dec.2.1, sm_dec.2.2] at HDe
  clear hB3 hB4 hB24 HEn p0 p1 p2 HOb KP KC KE
  go_upto_region 3 with fail
  rw [← hw4]
  clear hw4
  go_wp2_with fail
  refine HDe.out.mono ?_
  rintro e w5 ⟨vX, vN, rfl, HoX, HoN, hB5⟩
  obtain ⟨gX, cX, ysX, hvX, hbX, -⟩ := ownS_blk (n := 2) (show w5.ownsRow w4.heap.size 41 4 vX 2 (cellsG inc smC) from HoX.out) (by decide)
  subst hvX
  obtain ⟨aX', cX', eX, hcX, -, hrX⟩ := HoX.out.row
  injection eX with eX1 eX2 eX3
  subst eX1 eX3
  clear eX2
  obtain ⟨aN, cN, hvN, hrN, -, -, -, hgN⟩ := own_open (n := 1) HoN.out rfl
  obtain ⟨gN, rfl, hbN, -⟩ := hgN (by decide)
  subst hvN
  obtain ⟨w6, hw6⟩ : ∃ wx, wx = (w5.alloc (.cells #[.bool false, .slice (some ⟨gX, 0, none⟩) 2 cX, .slice (some ⟨gN, 0, none⟩) 1 cN] 25)).alloc (.cells #[.int .i64 0, .int .i64 0] 33) := ⟨_, rfl⟩
  have hB6 : Below w5.heap.size w5 w6 := by rw [hw6]; exact below2 _ _ _
  obtain ⟨kq, kf⟩ := blk2 w5 #[.bool false, .slice (some ⟨gX, 0, none⟩) 2 cX, .slice (some ⟨gN, 0, none⟩) 1 cN] #[.int .i64 0, .int .i64 0] 25 33
  rw [← hw6] at kq kf
  have hB46 := below_to hB5 hB6
  have HB6 := hide_ (below_to HB4.out hB46)
  have KP6 := hide_ (KP4.out.later hB46)
  have KC6 := hide_ (KC4.out.later hB46)
  have KE6 := hide_ (KE4.out.later hB46)
  have KF6 := hide_ (KF3.out.later hB46)
  have KQ6 := hide_ kq
  have KG6 := hide_ kf
  have HRX6 := hide_ (GRow.later hrX hB6)
  have HRN6 := hide_ (Row.later hrN hB6)
  have HRb6 := hide_ (Row.later HRb.out hB46)
  have HPr := hide_ (print_any false (some ⟨g, 0, none⟩) (some ⟨g', 0, none⟩) 2 1 smC [0] w6 (by decide) (by omega) (by decide) (by decide) (by decide) (hide_ (smRow KC6.out)) (hide_ (e0Row KE6.out)) (hide_ (TabB.at HT.out HB6.out)))
  rw [sm_chk, sm_prn] at HPr
  have hgX : Hid (¬ gX = g ∧ ¬ gN = g ∧ ¬ gb = g) := hide_ (by have h1 := HG2.out; have h2 := HZ24.out; omega)
  have p0 := KP6.out.cell 0; have p1 := KP6.out.cell 1; have p2 := KP6.out.cell 2
  simp at p0 p1 p2
  clear hB5 hB6 hB46 kq kf KP4 KC4 KE4 KF3 HoX HoN hrX hrN HDe HOb4 HRb
  go_upto_region 4 with fail
  rw [← hw6]
  clear hw6
  go_wp2_with fail
  refine HPr.out.mono ?_
  rintro e w7 ⟨rfl, hB7⟩
  obtain ⟨w8, hw8⟩ : ∃ wx, wx = w7.alloc (.cells #[.int .i64 0, .int .i64 0] 33) := ⟨_, rfl⟩
  have hB8 : Below w7.heap.size w7 w8 := by rw [hw8]; exact below1 _ _
  have KH8 : Hid (Blk w8 w7.heap.size 33 [.int .i64 0, .int .i64 0]) := hide_ (by rw [hw8]; exact Blk.newA w7 _ _)
  have hB68 := below_to hB7 hB8
  have HB8 := hide_ (below_to HB6.out hB68)
  have KP8 := hide_ (KP6.out.later hB68)
  have KC8 := hide_ (KC6.out.later hB68)
  have KE8 := hide_ (KE6.out.later hB68)
  have KF8 := hide_ (KF6.out.later hB68)
  have KQ8 := hide_ (KQ6.out.later hB68)
  have KG8 := hide_ (KG6.out.later hB68)
  have HRX8 := hide_ (GRow.later HRX6.out hB68)
  have HRN8 := hide_ (Row.later HRN6.out hB68)
  have HRb8 := hide_ (Row.later HRb6.out hB68)
  obtain ⟨w9, hw9⟩ : ∃ wx, wx = w8.setCell ⟨g, 2, none⟩ (.int .i64 3) := ⟨_, rfl⟩
  have hU9 : Upd (fun k => k = g) w8 w9 := by rw [hw9]; exact (Upd.refl _ w8).set _ _ (.inl rfl)
  have KC9 : Hid (Blk w9 g 41 (cellsG inc smB)) := hide_ (by rw [hw9]; exact KC8.out.set 2 (.int .i64 3))
  have hn : ∀ {k : Nat} {t : TypeId} {ys : List Value}, Blk w8 k t ys → t ≠ 41 → Blk w9 k t ys := fun h ht => h.upd hU9 (fun e => ht (by subst e; exact blk_type h KC8.out))
  have KP9 := hide_ (hn KP8.out (by decide))
  have KE9 := hide_ (hn KE8.out (by decide))
  have KF9 := hide_ (hn KF8.out (by decide))
  have KQ9 := hide_ (hn KQ8.out (by decide))
  have KG9 := hide_ (hn KG8.out (by decide))
  have KH9 := hide_ (hn KH8.out (by decide))
  have HRX9 := hide_ (GRow.upd HRX8.out hU9 (fun x hx => by injection hx with hx; subst hx; exact hgX.out.1))
  have HB9 : Hid (Below w.heap.size w w9) := hide_ (HB8.out.trans (hU9.below _ HB8.out.size (fun k e => by subst e; exact hg)))
  have HRN9 : Hid (Row .i64 w9 (some ⟨gN, 0, none⟩) [0]) := hide_ (HRN8.out.upd hU9 (fun x hx => by injection hx with hx; subst hx; exact hgX.out.2.1))
  have HRb9 : Hid (Row .u8 w9 (some ⟨gb, 0, none⟩) [109, 0, 1, 0, 2, 1, 0, 3, 20]) := hide_ (HRb8.out.upd hU9 (fun x hx => by injection hx with hx; subst hx; exact hgX.out.2.2))
  have c0 := KC8.out.cell 2; have cz := KC8.out.frozen 2
  clear p0 p1 p2
  have p1 := KP8.out.cell 1
  simp [cellsG, smC, inc] at c0 p1
  clear hB7 hB8 hB68 HPr hU9
  go_upto_region 5 with fail
  rw [← hw8]
  clear hw8
  go_upto_region 6 with fail
  rw [← hw9]
  clear hw9 c0 cz p1
  have HS2 := hide_ (small_any w9)
  go_wp2_with fail
  refine HS2.out.mono ?_
  rintro e wa ⟨⟨v2, u2, rfl, HSm2⟩, hBa⟩
  obtain ⟨s1, s2, rfl, rfl, -, -, hk1, hk2⟩ := HSm2.out.ex
  have HBa := hide_ hBa
  have HCk := hide_ (check_any false (some ⟨s1, 0, none⟩) (some ⟨s2, 0, none⟩) 2 1 smC [0] wa (by decide) (by omega) (by decide) (by decide) (by decide) (hide_ (smRow hk1)) (hide_ (e0Row hk2)))
  rw [sm_chk] at HCk
  clear hBa hk1 hk2 HS2 HSm2
  go_wp2_with fail
  refine HCk.out.mono ?_
  rintro e wb ⟨rfl, hBb⟩
  have HIs := hide_ (fun (e a x y : Int) w' => is_any e a x y w')
  have HBb := hide_ (below_to HBa.out hBb)
  clear hBb HCk HBa
  go_wp2_with fail
  refine (HIs.out 0 0 0 0 _).mono ?_
  rintro e wc ⟨rfl, hBc⟩
  have HBc := hide_ (below_to HBb.out hBc)
  have KPc := hide_ (KP9.out.later HBc.out)
  have HCk2 := hide_ (check_any false (some ⟨g, 0, none⟩) (some ⟨g', 0, none⟩) 2 1 smB [0] wc (by decide) (by omega) (by decide) (by decide) (by decide) (hide_ (smRow (KC9.out.later HBc.out))) (hide_ (e0Row (KE9.out.later HBc.out))))
  rw [smB_chk] at HCk2
  have q0 := KPc.out.cell 0; have q1 := KPc.out.cell 1; have q2 := KPc.out.cell 2
  simp at q0 q1 q2
  clear hBc HBb
  go_wp2_with fail
  refine HCk2.out.mono ?_
  rintro e wd ⟨rfl, hBd⟩
  have HBd := hide_ (below_to HBc.out hBd)
  clear hBd HCk2 HBc q0 q1 q2 KPc
  go_wp2_with fail
  refine (HIs.out 140 0 140 0 _).mono ?_
  rintro e we ⟨rfl, hBe⟩
  have HBe := hide_ (below_to HBd.out hBe)
  have f0 := (KF9.out.later HBe.out).cell 0; have f1 := (KF9.out.later HBe.out).cell 1
  simp at f0 f1
  clear hBe HBd
  go_wp2_with fail
  refine (HIs.out 0 0 0 0 _).mono ?_
  rintro e wf ⟨rfl, hBf⟩
  have HBf := hide_ (below_to HBe.out hBf)
  clear f0 f1 hBf HBe
  have f0 := (KG9.out.later HBf.out).cell 0; have f1 := (KG9.out.later HBf.out).cell 1
  simp at f0 f1
  go_wp2_with fail
  refine (HIs.out 0 0 0 0 _).mono ?_
  rintro e wg ⟨rfl, hBg⟩
  have HBg := hide_ (below_to HBf.out hBg)
  clear f0 f1 hBg HBf
  have f0 := (KH9.out.later HBg.out).cell 0; have f1 := (KH9.out.later HBg.out).cell 1
  simp at f0 f1
  go_upto_region 8 with (go_at_call 11; refine (HIs.out 0 0 0 0 _).mono ?_; rintro e wh ⟨rfl, hBh⟩)
  have HBh := hide_ (below_to HBg.out hBh)
  clear f0 f1 hBh HBg HIs
  have KPh := hide_ (KP9.out.later HBh.out)
  have KCh := hide_ (KC9.out.later HBh.out)
  have KEh := hide_ (KE9.out.later HBh.out)
  have KQh := hide_ (KQ9.out.later HBh.out)
  have HRXh := hide_ (GRow.later HRX9.out HBh.out)
  have HRNh := hide_ (Row.later HRN9.out HBh.out)
  have HRbh := hide_ (Row.later HRb9.out HBh.out)
  have HBB := hide_ (below_to HB9.out HBh.out)
  clear KP9 KC9 KE9 KF9 KQ9 KG9 KH9 HRX9 HRN9 HRb9 HBh
  have HCv : Hid (∀ w', Below wh.heap.size wh w' → (convert 30 9 (.slice (some ⟨gb, 0, none⟩) 9 cb)).run Tryd.prog w' = .ok (.string ⟨#[109, 0, 1, 0, 2, 1, 0, 3, 20]⟩) w') := hide_ (fun w' hb => conv_row E23 Tryd.underlying9 w' (some ⟨gb, 0, none⟩) _ cb [109, 0, 1, 0, 2, 1, 0, 3, 20] rfl (Row.later HRbh.out hb))
  have HSS : Hid (∀ w', Below wh.heap.size wh w' → (fun w' => w'.cell? ⟨w1.heap.size, 0, none⟩ = some (.bool false) ∧ w'.cell? ⟨w1.heap.size, 1, none⟩ = some (.slice (some ⟨g, 0, none⟩) 2 2) ∧ w'.cell? ⟨w1.heap.size, 2, none⟩ = some (.slice (some ⟨g', 0, none⟩) 1 1) ∧ w'.cell? ⟨w5.heap.size, 0, none⟩ = some (.bool false) ∧ w'.cell? ⟨w5.heap.size, 1, none⟩ = some (.slice (some ⟨gX, 0, none⟩) 2 cX) ∧ w'.cell? ⟨w5.heap.size, 2, none⟩ = some (.slice (some ⟨gN, 0, none⟩) 1 cN) ∧ (convert 30 9 (.slice (some ⟨gb, 0, none⟩) 9 cb)).run Tryd.prog w' = .ok (.string ⟨#[109, 0, 1, 0, 2, 1, 0, 3, 20]⟩) w') w') := hide_ (fun w' hb => ⟨(KPh.out.later hb).cell 0, (KPh.out.later hb).cell 1, (KPh.out.later hb).cell 2, (KQh.out.later hb).cell 0, (KQh.out.later hb).cell 1, (KQh.out.later hb).cell 2, HCv.out w' hb⟩)
  have HS3 := hide_ (small_any wh.drew)
  have HE1 : Hid (∀ (w' : World) (s1 s2 : Nat), Below wh.heap.size wh w' → Blk w' s1 41 (cellsG inc smC) → Blk w' s2 3 [.int .i64 0] → Calls Tryd.prog 13 #[.agg #[.bool false, .slice (some ⟨gX, 0, none⟩) 2 cX, .slice (some ⟨gN, 0, none⟩) 1 cN], .agg #[.bool false, .slice (some ⟨s1, 0, none⟩) 2 2, .slice (some ⟨s2, 0, none⟩) 1 1]] w' fun e w'' => e = .returned (.bool true) ∧ Below w'.heap.size w' w'') := hide_ (fun w' s1 s2 hb h1 h2 => by
    have := equal_any false false (some ⟨gX, 0, none⟩) (some ⟨s1, 0, none⟩) (some ⟨gN, 0, none⟩) (some ⟨s2, 0, none⟩) cX 2 cN 1 smC smC [0] [0] w' (by decide) (by decide) (by decide) (by decide) (hide_ (GRow.later HRXh.out hb)) (hide_ (smRow h1)) (hide_ (Row.later HRNh.out hb)) (hide_ (e0Row h2))
    rw [sm_eq] at this
    exact this)
  have HE2 : Hid (∀ (w' : World), Below wh.heap.size wh w' → Calls Tryd.prog 13 #[.agg #[.bool false, .slice (some ⟨gX, 0, none⟩) 2 cX, .slice (some ⟨gN, 0, none⟩) 1 cN], .agg #[.bool false, .slice (some ⟨g, 0, none⟩) 2 2, .slice (some ⟨g', 0, none⟩) 1 1]] w' fun e w'' => e = .returned (.bool false) ∧ Below w'.heap.size w' w'') := hide_ (fun w' hb => by
    have := equal_any false false (some ⟨gX, 0, none⟩) (some ⟨g, 0, none⟩) (some ⟨gN, 0, none⟩) (some ⟨g', 0, none⟩) cX 2 cN 1 smC smB [0] [0] w' (by decide) (by decide) (by decide) (by decide) (hide_ (GRow.later HRXh.out hb)) (hide_ (smRow (KCh.out.later hb))) (hide_ (Row.later HRNh.out hb)) (hide_ (e0Row (KEh.out.later hb)))
    rw [sm_ne] at this
    exact this)
  refine wp_region_last 18 (fun w' => w'.cell? ⟨w1.heap.size, 0, none⟩ = some (.bool false) ∧ w'.cell? ⟨w1.heap.size, 1, none⟩ = some (.slice (some ⟨g, 0, none⟩) 2 2) ∧ w'.cell? ⟨w1.heap.size, 2, none⟩ = some (.slice (some ⟨g', 0, none⟩) 1 1) ∧ w'.cell? ⟨w5.heap.size, 0, none⟩ = some (.bool false) ∧ w'.cell? ⟨w5.heap.size, 1, none⟩ = some (.slice (some ⟨gX, 0, none⟩) 2 cX) ∧ w'.cell? ⟨w5.heap.size, 2, none⟩ = some (.slice (some ⟨gN, 0, none⟩) 1 cN) ∧ (convert 30 9 (.slice (some ⟨gb, 0, none⟩) 9 cb)).run Tryd.prog w' = .ok (.string ⟨#[109, 0, 1, 0, 2, 1, 0, 3, 20]⟩) w') (by kernel_rfl) (HSS.out _ ((Below.refl wh.heap.size wh).drew)) (fun hHeld => ?_)
  refine wpAnyF_take [18] (by kernel_rfl) (i := 0) (v := ?vf1) rfl (by kernel_rfl) (by kernel_rfl) (by kernel_rfl) (fun _ _ _ h => h) (Or.inl ⟨by kernel_rfl, ?hyf1⟩) hHeld ?restf1
  case hyf1 => intro w' hSw; (try dsimp only at hSw); go_simp; try with_reducible rfl
  simp only [Act.put]
  refine wpAnyF_take [18] (by kernel_rfl) (i := 1) (v := ?vf2) rfl (by kernel_rfl) (by kernel_rfl) (by kernel_rfl) (fun _ _ _ h => h) (Or.inl ⟨by kernel_rfl, ?hyf2⟩) hHeld ?restf2
  case hyf2 => intro w' hSw; (try dsimp only at hSw); go_simp; try with_reducible rfl
  simp only [Act.put]
  refine wpAnyF_take [18] (by kernel_rfl) (i := 2) (v := ?vf3) rfl (by kernel_rfl) (by kernel_rfl) (by kernel_rfl) (fun _ _ _ h => h) (Or.inl ⟨by kernel_rfl, ?hyf3⟩) hHeld ?restf3
  case hyf3 => intro w' hSw; (try dsimp only at hSw); go_simp; try with_reducible rfl
  simp only [Act.put]
  refine wpAnyF_take [18] (by kernel_rfl) (i := 3) (v := ?vf4) rfl (by kernel_rfl) (by kernel_rfl) (by kernel_rfl) (fun _ _ _ h => h) (Or.inl ⟨by kernel_rfl, ?hyf4⟩) hHeld ?restf4
  case hyf4 => intro w' hSw; (try dsimp only at hSw); go_simp; try with_reducible rfl
  simp only [Act.put]
  refine wpAnyF_take [18] (by kernel_rfl) (i := 4) (v := ?vf5) rfl (by kernel_rfl) (by kernel_rfl) (by kernel_rfl) (fun _ _ _ h => h) (Or.inl ⟨by kernel_rfl, ?hyf5⟩) hHeld ?restf5
  case hyf5 => intro w' hSw; (try dsimp only at hSw); go_simp; try with_reducible rfl
  simp only [Act.put]
  refine wpAnyF_ready (rs := [5]) (by kernel_rfl) (by simp) ?_
  refine AllReadyF.cons rfl (fun K hK => ?_) AllReadyF.nil
  go_simp
  refine HS3.out.mono ?_
  rintro e wi ⟨⟨v3, u3, rfl, HSm3⟩, hBi⟩
  obtain ⟨s1, s2, rfl, rfl, -, -, hk1, hk2⟩ := HSm3.out.ex
  dsimp only
  have HBi := hide_ (((Below.refl wh.heap.size wh).drew).trans hBi)
  have HK1 := hide_ hk1
  have HK2 := hide_ hk2
  clear hBi hk1 hk2
  refine hK.out _ _ (HSS.out _ HBi.out) (fun hHeld => ?_)
  clear hK K
  refine wpAnyF_ready (rs := [6]) (by kernel_rfl) (by simp) ?_
  refine AllReadyF.cons rfl (fun K hK => ?_) AllReadyF.nil
  go_simp
  refine (HE1.out _ _ _ HBi.out HK1.out HK2.out).mono ?_
  rintro e wj ⟨rfl, hBj⟩
  dsimp only
  have HBj := hide_ (below_to HBi.out hBj)
  clear hBj
  refine hK.out _ _ (HSS.out _ HBj.out) (fun hHeld => ?_)
  clear hK K
  refine wpAnyF_take [18] (by kernel_rfl) (i := 7) (v := ?vf6) rfl (by kernel_rfl) (by kernel_rfl) (by kernel_rfl) (fun _ _ _ h => h) (Or.inl ⟨by kernel_rfl, ?hyf6⟩) hHeld ?restf6
  case hyf6 => intro w' hSw; (try dsimp only at hSw); go_simp; try with_reducible rfl
  simp only [Act.put]
  refine wpAnyF_take [18] (by kernel_rfl) (i := 8) (v := ?vf7) rfl (by kernel_rfl) (by kernel_rfl) (by kernel_rfl) (fun _ _ _ h => h) (Or.inl ⟨by kernel_rfl, ?hyf7⟩) hHeld ?restf7
  case hyf7 => intro w' hSw; (try dsimp only at hSw); go_simp; try with_reducible rfl
  simp only [Act.put]
  refine wpAnyF_take [18] (by kernel_rfl) (i := 9) (v := ?vf8) rfl (by kernel_rfl) (by kernel_rfl) (by kernel_rfl) (fun _ _ _ h => h) (Or.inl ⟨by kernel_rfl, ?hyf8⟩) hHeld ?restf8
  case hyf8 => intro w' hSw; (try dsimp only at hSw); go_simp; try with_reducible rfl
  simp only [Act.put]
  refine wpAnyF_take [18] (by kernel_rfl) (i := 10) (v := ?vf9) rfl (by kernel_rfl) (by kernel_rfl) (by kernel_rfl) (fun _ _ _ h => h) (Or.inl ⟨by kernel_rfl, ?hyf9⟩) hHeld ?restf9
  case hyf9 => intro w' hSw; (try dsimp only at hSw); go_simp; try with_reducible rfl
  simp only [Act.put]
  refine wpAnyF_ready (rs := [11]) (by kernel_rfl) (by simp) ?_
  refine AllReadyF.cons rfl (fun K hK => ?_) AllReadyF.nil
  go_simp
  refine (HE2.out _ HBj.out).mono ?_
  rintro e wk ⟨rfl, hBk⟩
  dsimp only
  have HBk := hide_ (below_to HBj.out hBk)
  clear hBk
  refine hK.out _ _ (HSS.out _ HBk.out) (fun hHeld => ?_)
  clear hK K
  refine wpAnyF_take [18] (by kernel_rfl) (i := 12) (v := ?vf10) rfl (by kernel_rfl) (by kernel_rfl) (by kernel_rfl) (fun _ _ _ h => h) (Or.inl ⟨by kernel_rfl, ?hyf10⟩) hHeld ?restf10
  case hyf10 => intro w' hSw; (try dsimp only at hSw); go_simp; try with_reducible rfl
  simp only [Act.put]
  refine wpAnyF_take [18] (by kernel_rfl) (i := 13) (v := ?vf11) rfl (by kernel_rfl) (by kernel_rfl) (by kernel_rfl) (fun _ _ _ h => h) (Or.inl ⟨by kernel_rfl, ?hyf11⟩) hHeld ?restf11
  case hyf11 => intro w' hSw; (try dsimp only at hSw); go_simp; try with_reducible rfl
  simp only [Act.put]
  refine wpAnyF_take [18] (by kernel_rfl) (i := 14) (v := ?vf12) rfl (by kernel_rfl) (by kernel_rfl) (by kernel_rfl) (fun _ _ _ h => h) (Or.inl ⟨by kernel_rfl, ?hyf12⟩) hHeld ?restf12
  case hyf12 => intro w' hSw; (try dsimp only at hSw); go_simp; try with_reducible rfl
  simp only [Act.put]
  refine wpAnyF_take [18] (by kernel_rfl) (i := 15) (v := ?vf13) rfl (by kernel_rfl) (by kernel_rfl) (by kernel_rfl) (fun _ _ _ h => h) (Or.inl ⟨by kernel_rfl, ?hyf13⟩) hHeld ?restf13
  case hyf13 => intro w' hSw; (try dsimp only at hSw); go_simp; try with_reducible rfl
  simp only [Act.put]
  refine wpAnyF_take [18] (by kernel_rfl) (i := 16) (v := ?vf14) rfl (by kernel_rfl) (by kernel_rfl) (by kernel_rfl) (fun _ _ _ h => h) (Or.inl ⟨by kernel_rfl, ?hyf14⟩) hHeld ?restf14
  case hyf14 => intro w' hSw; (try dsimp only at hSw); go_simp; try with_reducible rfl
  simp only [Act.put]
  refine wpAnyF_take [18] (by kernel_rfl) (i := 17) (v := ?vf15) rfl (by kernel_rfl) (by kernel_rfl) (by kernel_rfl) (fun _ _ _ h => h) (Or.inl ⟨by kernel_rfl, ?hyf15⟩) hHeld ?restf15
  case hyf15 => intro w' hSw; (try dsimp only at hSw); go_simp; try with_reducible rfl
  simp only [Act.put]
  refine wpAnyF_ready (rs := [18]) (by kernel_rfl) (by simp) ?_
  refine AllReadyF.last rfl (fun K hK => ?_)
  go_simp
  refine hK.out _ _ ?_
  clear hK K
  refine wpAnyF_done (by kernel_rfl) ?_ _
  clear HSS
  go_wp2
  go_ret
  exact ⟨rfl, below_to HBB.out HBk.out⟩
end Go.Proofs.YteadmiikenpjeaaDoor
/- Code, plain: what is decoded is encoded to the same bytes. -/
namespace Go.Proofs.YteadmiikenpjeaaDoor
open Go.RowKit
set_option linter.unusedVariables false

theorem rdV_back {l : List Int} (hb : Bys l) {s : Rs} {er : Int} {may : Int → Bool} (her : er ≠ 0) (h : (rdV l s er may).2.e = 0) : s.e = 0 ∧ 0 ≤ (rdV l s er may).1 ∧ may (rdV l s er may).1 = true ∧ l.drop s.at_ = form (rdV l s er may).1.toNat ++ l.drop (rdV l s er may).2.at_ := by
  unfold rdV at h ⊢
  by_cases h0 : s.e = 0
  · rw [if_pos h0] at h ⊢
    by_cases h1 : (getF (l.drop s.at_)).2.2 = 0
    · rw [if_pos h1] at h ⊢
      by_cases h2 : may (getF (l.drop s.at_)).1 = true
      · rw [if_pos h2] at h ⊢
        obtain ⟨b1, b2, b3, b4, b5⟩ := get_back (getF_R (l.drop s.at_)) (hb.drop _) h1
        refine ⟨h0, b3, h2, ?_⟩
        simp only
        rw [b5, ← List.drop_drop, List.take_append_drop]
      · rw [if_neg h2] at h
        exact absurd h her
    · rw [if_neg h1] at h
      exact absurd h h1
  · rw [if_neg h0] at h
    exact absurd h h0
theorem rdO_back {l : List Int} {s : Rs} {lo hi : Int} (hs : s.at_ ≤ l.length) (h : (rdO l s lo hi).2.e = 0) : s.e = 0 ∧ lo ≤ (rdO l s lo hi).1 ∧ (rdO l s lo hi).1 ≤ hi ∧ l.drop s.at_ = (rdO l s lo hi).1 :: l.drop (rdO l s lo hi).2.at_ ∧ (rdO l s lo hi).2.at_ ≤ l.length := by
  unfold rdO at h ⊢
  by_cases h0 : s.e = 0
  · rw [if_pos h0] at h ⊢
    by_cases h1 : s.at_ = l.length
    · rw [if_pos h1] at h
      exact absurd h (by simp)
    · rw [if_neg h1] at h ⊢
      by_cases h2 : l.getD s.at_ 0 < lo ∨ hi < l.getD s.at_ 0
      · rw [if_pos h2] at h
        exact absurd h (by simp)
      · rw [if_neg h2] at h ⊢
        refine ⟨h0, ?_, ?_, drop_cons l s.at_ (by omega), ?_⟩
        · simp only; omega
        · simp only; omega
        · simp only; omega
  · rw [if_neg h0] at h
    exact absurd h h0
theorem rd1_back {l : List Int} (hb : Bys l) {k : Int} {s : Rs} (h : (rd1 l k s).2.e = 0) : s.e = 0 ∧ l.drop s.at_ = (if k ≠ 0 then opB (rd1 l k s).1 else []) ++ l.drop (rd1 l k s).2.at_ := by
  unfold rd1 at h ⊢
  by_cases hk : k = 0
  · rw [if_pos hk] at h ⊢
    rw [if_neg (by simp [hk])]
    exact ⟨h, rfl⟩
  · rw [if_neg hk] at h ⊢
    rw [if_pos hk]
    obtain ⟨h1, h2, h3, h4⟩ := rdV_back hb (er := 3) (may := mayN) (by decide) h
    refine ⟨h1, ?_⟩
    unfold opB
    simp only
    have e : (rdN l s).1 - 1 + 1 = (rdN l s).1 := by omega
    rw [e]
    exact h4
theorem insB_eq (x : In) : insB x = form x.op.toNat ++ ((if (kin x.op).1 ≠ 0 then opB x.a else []) ++ ((if (kin x.op).2.1 ≠ 0 then opB x.b else []) ++ (if (kin x.op).2.2 ≠ 0 then opB x.c else []))) := by
  unfold insB nmd
  generalize kin x.op = k
  obtain ⟨k0, k1, k2⟩ := k
  simp only [nmj, kat, oat, List.nil_append]
  have e : ∀ (c : Prop) [Decidable c] (a : Int), (if c then [a] else ([] : List Int)).flatMap opB = if c then opB a else [] := fun c _ a => by split <;> simp
  rw [List.flatMap_append, List.flatMap_append, e, e, e, List.append_assoc]
theorem rdI_back {l : List Int} (hb : Bys l) {enc : Bool} {s : Rs} (h : (rdI l enc s).2.e = 0) : s.e = 0 ∧ l.drop s.at_ = insB (rdI l enc s).1 ++ l.drop (rdI l enc s).2.at_ := by
  rw [insB_eq]
  unfold rdI at h ⊢
  simp only at h ⊢
  obtain ⟨c1, c2⟩ := rd1_back hb h
  obtain ⟨b1, b2⟩ := rd1_back hb c1
  obtain ⟨a1, a2⟩ := rd1_back hb b1
  obtain ⟨o1, o2, o3, o4⟩ := rdV_back hb (by decide) a1
  refine ⟨o1, ?_⟩
  rw [List.append_assoc, List.append_assoc, List.append_assoc, ← c2, ← b2, ← a2, ← o4]
theorem rdM_back {α : Type} {l : List Int} {f : Rs → α × Rs} {g : α → List Int} (hf : ∀ s, (f s).2.e = 0 → s.e = 0 ∧ l.drop s.at_ = g (f s).1 ++ l.drop (f s).2.at_) : ∀ (n : Nat) (s : Rs), (rdM f n s).2.2.e = 0 → s.e = 0 ∧ (rdM f n s).2.1.length = n ∧ l.drop s.at_ = (rdM f n s).2.1.flatMap g ++ l.drop (rdM f n s).2.2.at_
  | 0, s, h => ⟨h, rfl, rfl⟩
  | n + 1, s, h => by
    by_cases h0 : s.e = 0
    · rw [rdM, if_pos h0] at h ⊢
      simp only at h ⊢
      obtain ⟨r1, r2, r3⟩ := rdM_back hf n (f s).2 h
      obtain ⟨f1, f2⟩ := hf s r1
      refine ⟨h0, by rw [List.length_cons, r2], ?_⟩
      rw [List.flatMap_cons, List.append_assoc, ← r3, ← f2]
    · rw [rdM_stop f (n + 1) s h0] at h
      exact absurd h h0
theorem pgm_back {l : List Int} (hb : Bys l) (h : (pgm l).s.e = 0) : encP (pgm l).enc (pgm l).C (pgm l).E = l := by
  unfold pgm at h ⊢
  simp only at h ⊢
  generalize ho1 : rdO l ⟨0, 0, 0⟩ 109 109 = o1 at h ⊢
  generalize ho2 : rdO l o1.2 0 1 = o2 at h ⊢
  generalize hn : rdV l o2.2 4 mayC = n at h ⊢
  generalize hes : rdM (rdN l) n.1.toNat n.2 = es at h ⊢
  generalize hm : rdV l es.2.2 4 mayC = m at h ⊢
  generalize hcs : rdM (rdI l (o2.1 == 1)) m.1.toNat m.2 = cs at h ⊢
  have hend : cs.2.2.e = 0 ∧ ¬ cs.2.2.at_ < l.length := by
    by_cases hl : cs.2.2.at_ < l.length
    · rw [if_pos hl] at h
      unfold rfs at h
      by_cases he : cs.2.2.e = 0
      · rw [if_pos he] at h; exact absurd h (by simp)
      · rw [if_neg he] at h; exact absurd h he
    · rw [if_neg hl] at h; exact ⟨h, hl⟩
  obtain ⟨he, hl⟩ := hend
  obtain ⟨c1, c2, c3⟩ := rdM_back (l := l) (g := insB) (fun s hs => rdI_back hb hs) m.1.toNat m.2 (by rw [hcs]; exact he)
  rw [hcs] at c2 c3
  obtain ⟨m1, m2, m3, m4⟩ := rdV_back hb (s := es.2.2) (er := 4) (may := mayC) (by decide) (by rw [hm]; exact c1)
  rw [hm] at m2 m3 m4
  obtain ⟨e1, e2, e3⟩ := rdM_back (l := l) (f := rdN l) (g := entB) (fun s hs => by
    obtain ⟨q1, q2, q3, q4⟩ := rdV_back hb (er := 3) (may := mayN) (by decide) hs
    exact ⟨q1, q4⟩) n.1.toNat n.2 (by rw [hes]; exact m1)
  rw [hes] at e2 e3
  obtain ⟨n1, n2, n3, n4⟩ := rdV_back hb (s := o2.2) (er := 4) (may := mayC) (by decide) (by rw [hn]; exact e1)
  rw [hn] at n2 n3 n4
  have k1 : o1.2.e = 0 ∧ o1.2.at_ ≤ l.length := by
    have q : o2.2.e = 0 := n1
    by_cases hq : o1.2.e = 0
    · have := rdO_back (l := l) (s := ⟨0, 0, 0⟩) (lo := 109) (hi := 109) (Nat.zero_le _) (by rw [ho1]; exact hq)
      rw [ho1] at this
      exact ⟨hq, this.2.2.2.2⟩
    · rw [← ho2] at q
      unfold rdO at q
      rw [if_neg hq] at q
      exact absurd q hq
  obtain ⟨p1, p2, p3, p4, p5⟩ := rdO_back (l := l) (s := o1.2) (lo := 0) (hi := 1) k1.2 (by rw [ho2]; exact n1)
  rw [ho2] at p2 p3 p4
  obtain ⟨t1, t2, t3, t4, t5⟩ := rdO_back (l := l) (s := ⟨0, 0, 0⟩) (lo := 109) (hi := 109) (Nat.zero_le _) (by rw [ho1]; exact k1.1)
  rw [ho1] at t2 t3 t4
  have e109 : o1.1 = 109 := by omega
  have ebit : (if (o2.1 == 1) = true then (1 : Int) else 0) = o2.1 := by
    have : o2.1 = 0 ∨ o2.1 = 1 := by omega
    rcases this with h | h <;> rw [h] <;> rfl
  unfold encP
  rw [ebit, e2, c2]
  have hd : l.drop cs.2.2.at_ = [] := List.drop_eq_nil_of_le (by omega)
  rw [hd, List.append_nil] at c3
  have t4' : l = o1.1 :: l.drop o1.2.at_ := t4
  conv => rhs; rw [t4', e109, p4, n4, e3, m4, c3]
  simp [List.append_assoc]
/-- What is decoded is encoded to the same bytes. -/
theorem enc_dec {l : List Int} (hb : Bys l) (h : (decF l).1 = 0) : encP (decE l) (decC l) (decN l) = l := by
  have hp : (pgm l).s.e = 0 := by
    by_cases hq : (pgm l).s.e = 0
    · exact hq
    · unfold decF at h
      rw [if_pos hq] at h
      exact absurd h hq
  unfold decE decC decN
  rw [if_pos h, if_pos h, if_pos h]
  exact pgm_back hb hp
end Go.Proofs.YteadmiikenpjeaaDoor
/- Code, plain: bytes that are cut are short, at the cut; bytes with more behind have a tail, at the end. -/
namespace Go.Proofs.YteadmiikenpjeaaDoor
open Go.RowKit
set_option linter.unusedVariables false

/-- The reader stands ahead of the front of these bytes, not of all. -/
structure CutAt (l : List Int) (s : Rs) (r : List Int) : Prop where
  e : s.e = 0
  p : s.p = 0
  d : ∃ k, l.drop s.at_ = r.take k ∧ k < r.length ∧ s.at_ + k = l.length
/-- The bytes were short. -/
def Sh (l : List Int) (s : Rs) : Prop := s.e = 20 ∧ s.p = l.length
theorem Sh.ne {l : List Int} {s : Rs} (h : Sh l s) : s.e ≠ 0 := by rw [h.1]; decide
theorem Sh.rdV {l : List Int} {s : Rs} (h : Sh l s) (er : Int) (may : Int → Bool) : Sh l (rdV l s er may).2 := by
  unfold Go.Proofs.YteadmiikenpjeaaDoor.rdV
  rw [if_neg h.ne]
  exact h
theorem Sh.rdO {l : List Int} {s : Rs} (h : Sh l s) (lo hi : Int) : Sh l (rdO l s lo hi).2 := by
  unfold Go.Proofs.YteadmiikenpjeaaDoor.rdO
  rw [if_neg h.ne]
  exact h
theorem Sh.rd1 {l : List Int} {s : Rs} (h : Sh l s) (k : Int) : Sh l (rd1 l k s).2 := by
  unfold Go.Proofs.YteadmiikenpjeaaDoor.rd1
  split
  · exact h
  · exact h.rdV 3 mayN
theorem Sh.rdM {α : Type} {l : List Int} {s : Rs} (h : Sh l s) (f : Rs → α × Rs) (n : Nat) : Sh l (rdM f n s).2.2 := by
  rw [rdM_stop f n s h.ne]
  exact h
theorem CutAt.num {l : List Int} {s : Rs} {r : List Int} {n : Nat} (h : CutAt l s (form n ++ r)) (hn : n < 18446744073709551616) {er : Int} {may : Int → Bool} (hm : may (n : Int) = true) : (∃ s', rdV l s er may = ((n : Int), s') ∧ CutAt l s' r) ∨ Sh l (rdV l s er may).2 := by
  obtain ⟨k, d1, d2, d3⟩ := h.d
  rw [List.length_append] at d2
  by_cases hk : (form n).length ≤ k
  · left
    have d4 : l.drop s.at_ = form n ++ r.take (k - (form n).length) := by
      rw [d1, List.take_append, List.take_of_length_le hk]
    refine ⟨⟨s.at_ + (form n).length, 0, s.p⟩, ?_, rfl, h.p, k - (form n).length, ?_, by omega, ?_⟩
    · unfold rdV
      rw [if_pos h.e, d4, (get_form n hn _).getF]
      simp only
      rw [if_pos trivial, if_pos hm]
    · show l.drop (s.at_ + (form n).length) = _
      rw [← List.drop_drop, d4]
      simp
    · show s.at_ + (form n).length + (k - (form n).length) = l.length
      omega
  · right
    have d4 : l.drop s.at_ = (form n).take k := by
      rw [d1, List.take_append_of_le_length (by omega)]
    unfold rdV
    rw [if_pos h.e, d4, (get_cut n hn k (by omega)).getF]
    simp only
    rw [if_neg (by decide)]
    exact ⟨rfl, by simp only; rw [d3]⟩
theorem CutAt.byte {l : List Int} {s : Rs} {r : List Int} {c : Int} (h : CutAt l s (c :: r)) {lo hi : Int} (h1 : lo ≤ c) (h2 : c ≤ hi) : (∃ s', rdO l s lo hi = (c, s') ∧ CutAt l s' r) ∨ Sh l (rdO l s lo hi).2 := by
  obtain ⟨k, d1, d2, d3⟩ := h.d
  cases k with
  | zero =>
    right
    unfold rdO
    rw [if_pos h.e, if_pos (by omega)]
    exact ⟨rfl, by simp only; congr 1⟩
  | succ k =>
    left
    rw [List.take_succ_cons] at d1
    have hlt : s.at_ < l.length := by omega
    have hc := drop_cons l s.at_ hlt
    rw [d1] at hc
    injection hc with hg hd
    rw [List.length_cons] at d2
    refine ⟨⟨s.at_ + 1, 0, s.p⟩, ?_, rfl, h.p, k, hd.symm, by omega, ?_⟩
    · unfold rdO
      rw [if_pos h.e, if_neg (by omega), ← hg, if_neg (by omega)]
    · show s.at_ + 1 + k = l.length
      omega
theorem CutAt.ents {l r : List Int} : ∀ (E : List Int) (s : Rs), (∀ e ∈ E, 0 ≤ e ∧ e ≤ 2147483648) → CutAt l s (E.flatMap entB ++ r) → CutAt l (rdM (rdN l) E.length s).2.2 r ∨ Sh l (rdM (rdN l) E.length s).2.2
  | [], s, _, h => Or.inl (by simpa [rdM] using h)
  | e :: E, s, hE, h => by
    obtain ⟨h0, h1⟩ := hE e (by simp)
    obtain ⟨n, rfl⟩ := Int.eq_ofNat_of_zero_le h0
    have h' : CutAt l s (form n ++ (E.flatMap entB ++ r)) := by
      have := h
      rw [List.flatMap_cons, List.append_assoc] at this
      exact this
    rw [List.length_cons, rdM, if_pos h.e]
    simp only
    rcases h'.num (er := 3) (may := mayN) (by omega) (decide_eq_true (by omega)) with ⟨s1, e1, a1⟩ | hs
    · have e3 : rdN l s = ((n : Int), s1) := e1
      rw [e3]
      exact CutAt.ents E s1 (fun x hx => hE x (by simp [hx])) a1
    · exact Or.inr (Sh.rdM hs _ _)
theorem CutAt.op {l r : List Int} {s : Rs} {k a : Int} (ha : -1 ≤ a ∧ a ≤ 16777216) (h : CutAt l s ((if k ≠ 0 then opB a else []) ++ r)) : CutAt l (rd1 l k s).2 r ∨ Sh l (rd1 l k s).2 := by
  by_cases hk : k = 0
  · rw [if_neg (by simp [hk])] at h
    unfold rd1
    rw [if_pos hk]
    exact Or.inl (by simpa using h)
  · rw [if_pos hk] at h
    obtain ⟨m, hm⟩ := Int.eq_ofNat_of_zero_le (show 0 ≤ a + 1 by omega)
    have h' : CutAt l s (form m ++ r) := by
      have := h
      unfold opB at this
      rw [hm] at this
      exact this
    unfold rd1
    rw [if_neg hk]
    simp only
    rcases h'.num (er := 3) (may := mayN) (by omega) (decide_eq_true (by omega)) with ⟨s1, e1, a1⟩ | hs
    · have e3 : rdN l s = ((m : Int), s1) := e1
      rw [e3]
      exact Or.inl a1
    · exact Or.inr hs
theorem CutAt.ins {l r : List Int} {s : Rs} {enc : Bool} {nc ne : Int} {x : In} (h1 : nc ≤ 1048576) (h2 : ne ≤ 1048576) (hx : frmX enc nc ne x = true) (h : CutAt l s (insB x ++ r)) : CutAt l (rdI l enc s).2 r ∨ Sh l (rdI l enc s).2 := by
  have hin := frmX_inB h1 h2 hx
  obtain ⟨p0, p1, p2, p3⟩ := frmX_parts hx
  obtain ⟨n, hn⟩ := Int.eq_ofNat_of_zero_le (show 0 ≤ x.op by have := hin.op; omega)
  have hn47 : n ≤ 47 := by have := hin.op; omega
  rw [insB_eq, hn, Int.toNat_natCast, List.append_assoc, List.append_assoc, List.append_assoc] at h
  have hmay : mayI enc (n : Int) = true := by unfold mayI; rw [decide_eq_true (by omega), ← hn, p0]; rfl
  have q := hin.nm
  unfold rdI
  simp only
  rcases h.num (er := 140) (may := mayI enc) (by omega) hmay with ⟨s1, e1, a1⟩ | hs
  · rw [e1]
    simp only
    rcases CutAt.op (q 0 (by omega)) a1 with a2 | hs
    · rcases CutAt.op (q 1 (by omega)) a2 with a3 | hs
      · exact CutAt.op (q 2 (by omega)) a3
      · exact Or.inr (hs.rd1 _)
    · exact Or.inr ((hs.rd1 _).rd1 _)
  · exact Or.inr (((hs.rd1 _).rd1 _).rd1 _)
theorem CutAt.code {l r : List Int} {enc : Bool} {nc ne : Int} (h1 : nc ≤ 1048576) (h2 : ne ≤ 1048576) : ∀ (C : List In) (s : Rs), (∀ x ∈ C, frmX enc nc ne x = true) → CutAt l s (C.flatMap insB ++ r) → CutAt l (rdM (rdI l enc) C.length s).2.2 r ∨ Sh l (rdM (rdI l enc) C.length s).2.2
  | [], s, _, h => Or.inl (by simpa [rdM] using h)
  | x :: C, s, hC, h => by
    have h' : CutAt l s (insB x ++ (C.flatMap insB ++ r)) := by
      have := h
      rw [List.flatMap_cons, List.append_assoc] at this
      exact this
    rw [List.length_cons, rdM, if_pos h.e]
    simp only
    rcases h'.ins h1 h2 (hC x (by simp)) with a1 | hs
    · exact CutAt.code h1 h2 C _ (fun y hy => hC y (by simp [hy])) a1
    · exact Or.inr (Sh.rdM hs _ _)
theorem Chk.ents {enc : Bool} {C : List In} {E : List Int} (h : Chk enc C E) : ∀ e ∈ E, 0 ≤ e ∧ e ≤ 2147483648 := by
  intro e he
  have := h.nc
  obtain ⟨i, hi, rfl⟩ := List.mem_iff_getElem.1 he
  have := h.ent i hi
  rw [List.getD, List.getElem?_eq_getElem hi, Option.getD_some] at this
  omega
theorem Chk.frms {enc : Bool} {C : List In} {E : List Int} (h : Chk enc C E) : ∀ x ∈ C, frmX enc C.length E.length x = true := by
  intro x hx
  obtain ⟨i, hi, rfl⟩ := List.mem_iff_getElem.1 hx
  have := h.code i hi
  unfold frm at this
  rw [List.getElem?_eq_getElem hi] at this
  simp only [Bool.and_eq_true] at this
  exact this.1
/-- Cut anywhere it is short, at the cut. -/
theorem dec_cut {enc : Bool} {C : List In} {E : List Int} (h : Chk enc C E) {i : Nat} (hi : i < (encP enc C E).length) : decF ((encP enc C E).take i) = (20, (i : Int)) := by
  have hnc := h.nc
  have hne := h.ne
  obtain ⟨l, hl⟩ : ∃ l, (encP enc C E).take i = l := ⟨_, rfl⟩
  have hll : l.length = i := by rw [← hl, List.length_take]; omega
  rw [hl]
  have a0 : CutAt l ⟨0, 0, 0⟩ (109 :: (if enc then 1 else 0) :: (form E.length ++ (E.flatMap entB ++ (form C.length ++ (C.flatMap insB ++ []))))) := by
    have e : (109 :: (if enc then 1 else 0) :: (form E.length ++ (E.flatMap entB ++ (form C.length ++ (C.flatMap insB ++ []))))) = encP enc C E := by
      unfold encP
      simp [List.append_assoc]
    rw [e]
    exact ⟨rfl, rfl, i, by rw [← hl]; rfl, hi, by simp only; omega⟩
  have hb : (((if enc = true then (1 : Int) else 0)) == 1) = enc := by cases enc <;> rfl
  have hs : Sh l (pgm l).s := by
    suffices hcs : Sh l (rdM (rdI l ((rdO l (rdO l ⟨0, 0, 0⟩ 109 109).2 0 1).1 == 1)) (rdV l (rdM (rdN l) (rdV l (rdO l (rdO l ⟨0, 0, 0⟩ 109 109).2 0 1).2 4 mayC).1.toNat (rdV l (rdO l (rdO l ⟨0, 0, 0⟩ 109 109).2 0 1).2 4 mayC).2).2.2 4 mayC).1.toNat (rdV l (rdM (rdN l) (rdV l (rdO l (rdO l ⟨0, 0, 0⟩ 109 109).2 0 1).2 4 mayC).1.toNat (rdV l (rdO l (rdO l ⟨0, 0, 0⟩ 109 109).2 0 1).2 4 mayC).2).2.2 4 mayC).2).2.2 by
      unfold pgm
      simp only
      split
      · unfold rfs
        rw [if_neg hcs.ne]
        exact hcs
      · exact hcs
    rcases a0.byte (lo := 109) (hi := 109) (by omega) (by omega) with ⟨s1, e1, a1⟩ | hs
    · rw [e1]
      simp only
      rcases a1.byte (lo := 0) (hi := 1) (by split <;> omega) (by split <;> omega) with ⟨s2, e2, a2⟩ | hs
      · rw [e2]
        simp only [hb]
        rcases a2.num (er := 4) (may := mayC) (by omega) (decide_eq_true (by omega)) with ⟨s3, e3, a3⟩ | hs
        · rw [e3]
          simp only [Int.toNat_natCast]
          rcases CutAt.ents E s3 h.ents a3 with a4 | hs
          · rcases a4.num (er := 4) (may := mayC) (by omega) (decide_eq_true (by omega)) with ⟨s5, e5, a5⟩ | hs
            · rw [e5]
              simp only [Int.toNat_natCast]
              rcases CutAt.code (enc := enc) (nc := C.length) (ne := E.length) (by omega) (by omega) C s5 h.frms a5 with a6 | hs
              · obtain ⟨k, _, hk, _⟩ := a6.d
                exact absurd hk (by simp)
              · exact hs
            · exact Sh.rdM hs _ _
          · exact Sh.rdM (hs.rdV _ _) _ _
        · exact Sh.rdM ((Sh.rdM hs _ _).rdV _ _) _ _
      · exact Sh.rdM ((Sh.rdM (hs.rdV _ _) _ _).rdV _ _) _ _
    · exact Sh.rdM ((Sh.rdM ((hs.rdO _ _).rdV _ _) _ _).rdV _ _) _ _
  unfold decF
  rw [if_pos hs.ne, hs.1, hs.2, hll]
/-- With bytes behind there is a tail, at the end. -/
theorem dec_tail {enc : Bool} {C : List In} {E : List Int} (h : Chk enc C E) {more : List Int} (hm : more ≠ []) : decF (encP enc C E ++ more) = (124, ((encP enc C E).length : Int)) := by
  have hnc := h.nc
  have hne := h.ne
  have hml : 0 < more.length := List.length_pos_iff.2 hm
  obtain ⟨l, hl⟩ : ∃ l, encP enc C E ++ more = l := ⟨_, rfl⟩
  have hll : l.length = (encP enc C E).length + more.length := by rw [← hl, List.length_append]
  rw [hl]
  have a0 : At l ⟨0, 0, 0⟩ (109 :: (if enc then 1 else 0) :: (form E.length ++ (E.flatMap entB ++ (form C.length ++ (C.flatMap insB ++ more))))) := ⟨rfl, rfl, by
    show l.drop 0 = _
    rw [← hl]
    unfold encP
    simp [List.append_assoc]⟩
  obtain ⟨s1, e1, a1⟩ := a0.byte (lo := 109) (hi := 109) (by omega) (by omega)
  obtain ⟨s2, e2, a2⟩ := a1.byte (lo := 0) (hi := 1) (by split <;> omega) (by split <;> omega)
  obtain ⟨s3, e3, a3⟩ := a2.num (er := 4) (may := mayC) (by omega) (decide_eq_true (by omega))
  obtain ⟨ea, s4, e4, a4⟩ := At.ents E s3 h.ents a3
  obtain ⟨s5, e5, a5⟩ := a4.num (er := 4) (may := mayC) (by omega) (decide_eq_true (by omega))
  obtain ⟨ca, s6, e6, a6⟩ := At.code (enc := enc) (nc := C.length) (ne := E.length) (by omega) (by omega) C s5 h.frms a5
  have h6 := congrArg List.length a6.d
  rw [List.length_drop] at h6
  have hat : s6.at_ = (encP enc C E).length := by omega
  have hb : (((if enc = true then (1 : Int) else 0)) == 1) = enc := by cases enc <;> rfl
  have hs : (pgm l).s = ⟨s6.at_, 124, s6.at_⟩ := by
    unfold pgm
    simp only [e1, e2, e3, e4, e5, hb, e6, Int.toNat_natCast]
    rw [if_pos (by omega)]
    unfold rfs
    rw [if_pos a6.e]
  unfold decF
  rw [hs]
  simp only
  rw [if_pos (by decide), hat]
end Go.Proofs.YteadmiikenpjeaaDoor
/- Code: programs that are made, as the outright statements use them. -/
namespace Go.Proofs.YteadmiikenpjeaaDoor
open Go.RowKit
set_option linter.unusedVariables false

theorem elU8 : Elem Tryd.prog 30 5 .u8 1 := ⟨Tryd.underlying30, Tryd.underlying5, by kernel_rfl⟩
theorem fbys {α : Type} {f : α → List Int} {l : List α} (h : ∀ x, Bys (f x)) : Bys (l.flatMap f) := fun x hx => by
  obtain ⟨a, _, ha⟩ := List.mem_flatMap.1 hx
  exact h a x ha
theorem encB_bys (enc : Bool) (C : List In) (E : List Int) : Bys (encP enc C E) := by
  unfold encP
  refine (((((?_ : Bys [109, if enc then 1 else 0]).append (form_bys _)).append (fbys (fun x => form_bys _))).append (form_bys _)).append (fbys (fun x => ?_)))
  · intro x hx
    cases enc <;> simp at hx <;> omega
  · unfold insB
    exact (form_bys _).append (fbys (fun n => form_bys _))
/-- A program of the call's own that has its form. -/
structure PrO (w : World) (B : Nat) (enc : Bool) (gC cC gE cE : Nat) (C : List In) (E : List Int) : Prop where
  c : COwn w B (.slice (some ⟨gC, 0, none⟩) C.length cC) C
  e : IOwn w B (.slice (some ⟨gE, 0, none⟩) E.length cE) E
  k : Chk enc C E
  c0 : 0 < C.length
  e0 : 0 < E.length
section
variable {w w' : World} {B : Nat} {enc : Bool} {gC cC gE cE : Nat} {C : List In} {E : List Int}
theorem PrO.later (h : PrO w B enc gC cC gE cE C E) (hB : Below w.heap.size w w') : PrO w' B enc gC cC gE cE C E := ⟨h.c.later hB, h.e.later hB, h.k, h.c0, h.e0⟩
theorem PrO.upd {S : Nat → Prop} {g : Nat} {ys : List Value} (h : PrO w B enc gC cC gE cE C E) (hb : Blk w g 25 ys) (hu : Upd (fun k => k = g) w w') : PrO w' B enc gC cC gE cE C E :=
  ⟨ownS_upd h.c hu (fun k e hk => by subst hk; exact notC h.c hb (by decide) e), h.e.upd hu (fun k e hk => by subst hk; exact notI h.e hb (by decide) e), h.k, h.c0, h.e0⟩
theorem PrO.crow (h : PrO w B enc gC cC gE cE C E) : IRow w (some ⟨gC, 0, none⟩) C ∧ C.length ≤ cC ∧ cC ≤ 9223372036854775807 := by
  obtain ⟨a, c, e1, e2, -, e3⟩ := h.c.row
  injection e1 with e4 _ e5
  subst e4 e5
  have := COwn.cap h.c
  unfold maxLen at this
  exact ⟨e3, e2, by omega⟩
theorem PrO.erow (h : PrO w B enc gC cC gE cE C E) : Row .i64 w (some ⟨gE, 0, none⟩) E ∧ E.length ≤ cE := by
  obtain ⟨a, c, e1, e2, -, e3⟩ := h.e.row
  injection e1 with e4 _ e5
  subst e4 e5
  exact ⟨e2, e3⟩
theorem PrO.encode (h : PrO w B enc gC cC gE cE C E) : Calls Tryd.prog 8 #[.agg #[.bool enc, .slice (some ⟨gC, 0, none⟩) C.length cC, .slice (some ⟨gE, 0, none⟩) E.length cE]] w fun e w' => (∃ v, e = .returned (.tuple #[v, .agg #[.int .i64 0, .int .i64 0]]) ∧ Hid (BOwn w' w.heap.size v (encP enc C E))) ∧ Below w.heap.size w w' := by
  obtain ⟨r1, r2, r3⟩ := h.crow
  obtain ⟨s1, s2⟩ := h.erow
  have k := h.k
  have k1 := k.nc; have k2 := k.ne
  have q := encode_any enc (some ⟨gC, 0, none⟩) (some ⟨gE, 0, none⟩) cC cE C E w r2 r3 (by omega) s2 (by omega) (hide_ r1) (hide_ s1)
  unfold encA at q
  rw [if_pos (chk_ok.2 k), chk_ok.2 k] at q
  exact q
end
theorem made_open {enc : Bool} {most : Nat} {w w' : World} {e : Ending} (h : MadeTo enc most w e w') : ∃ gC cC gE cE C E, e = .returned (.agg #[.bool enc, .slice (some ⟨gC, 0, none⟩) C.length cC, .slice (some ⟨gE, 0, none⟩) E.length cE]) ∧ PrO w' w.heap.size enc gC cC gE cE C E ∧ C.length ≤ most + 1 ∧ Below w.heap.size w w' := by
  obtain ⟨vC, vE, C, E, rfl, hk, h0, hm, hE, hoC, hoE, hB⟩ := h
  obtain ⟨gC, cC, yC, rfl, -⟩ := ownS_blk hoC h0
  obtain ⟨gE, cE, yE, rfl, -⟩ := ownS_blk hoE hE
  exact ⟨gC, cC, gE, cE, C, E, rfl, ⟨hoC, hoE, hk, h0, hE⟩, hm, hB⟩
/-- Bytes of the call's own, that are not none. -/
theorem bown_open {w : World} {B : Nat} {v : Value} {l : List Int} (h : BOwn w B v l) (h0 : 0 < l.length) : ∃ g c, v = .slice (some ⟨g, 0, none⟩) l.length c ∧ Row .u8 w (some ⟨g, 0, none⟩) l ∧ l.length ≤ c ∧ c ≤ 9223372036854775807 ∧ B ≤ g ∧ g < w.heap.size := by
  obtain ⟨a, c, rfl, h1, h2, h3, h4, h5⟩ := own_open h rfl
  obtain ⟨g, rfl, a1, a2, -, -⟩ := h5 h0
  exact ⟨g, c, rfl, h1, h3, by unfold maxLen at h4; omega, a1, a2⟩
theorem encP_pos (enc : Bool) (C : List In) (E : List Int) : 2 ≤ (encP enc C E).length := by unfold encP; simp
theorem chk_lim {enc : Bool} {C : List In} {E : List Int} (h : Chk enc C E) : (encP enc C E).length ≤ 60000000 := by
  have a := ent_len E (fun i hi => by have := h.ent i hi; have := h.nc; omega) E.length (Nat.le_refl _)
  have b := code_len C (fun i x hx => h.inB hx) C.length (Nat.le_refl _)
  rw [List.take_length] at a b
  have c := form_ten E.length (by have := h.ne; omega)
  have d := form_ten C.length (by have := h.nc; omega)
  have := h.nc; have := h.ne
  unfold encP
  simp only [List.length_append, List.length_cons, List.length_nil]
  omega
theorem dec_chk {l : List Int} (h : (decF l).1 = 0) : Chk (decE l) (decC l) (decN l) := by
  have hp : (pgm l).s.e = 0 := by
    by_cases hq : (pgm l).s.e = 0
    · exact hq
    · unfold decF at h
      rw [if_pos hq] at h
      exact absurd h hq
  have hc : (chk (pgm l).enc (pgm l).C (pgm l).E).1 = 0 := by
    by_cases hq : (chk (pgm l).enc (pgm l).C (pgm l).E).1 = 0
    · exact hq
    · unfold decF at h
      rw [if_neg (by omega), if_neg hq] at h
      split at h
      · cases h
      · exact absurd h hq
  unfold decE decC decN
  rw [if_pos h, if_pos h, if_pos h]
  exact chk_ok.1 (chk_zero hc)
theorem dec_none {l : List Int} (h : (decF l).1 ≠ 0) : decE l = false ∧ decC l = [] ∧ decN l = [] := by
  unfold decE decC decN
  rw [if_neg h, if_neg h, if_neg h]
  exact ⟨rfl, rfl, rfl⟩
end Go.Proofs.YteadmiikenpjeaaDoor
/-
  What the reading of an argument says of memory, with what each slice in it weighs. For a new seat: copy as <Name>Weigh.lean; put the Name for 'Seat', also in the import.
-/
namespace Go.Proofs.YteadmiikenpjeaaDoor
open Go.ChangeShapes Go.WideShapes Go.ChangeAt Go.RowKit
set_option linter.unusedVariables false

variable {H : Type} {enc : TypeId × Value → H} {P : Program} {w : World} {base : Nat} {held : Bool}

theorem weights_all {e : TypeId} : ∀ {ds : List (DataW H)} {d : DataW H}, d ∈ ds → ∀ n ∈ d.weights P e, n ∈ DataW.weightsAll P e ds
  | [], d, h, _, _ => by cases h
  | x :: r, d, h, n, hn => by
    simp only [DataW.weightsAll, List.mem_append]
    rcases List.mem_cons.1 h with rfl | h
    · exact .inl hn
    · exact .inr (weights_all h n hn)
/-- A struct's cells, field by field. -/
theorem field_weigh {t : TypeId} {fs : Array Field} (ht : P.underlying t = some (.struct fs)) {fuel : Nat} {cs : List Value} {y : DataW H × List MemPlace} (h : DataW.trod enc P w base (fun _ => true) held fuel t cs = some y) :
    cs.length = P.cellsOf t ∧ ∃ m, ∀ (i : Nat) (f : Field) (c : Value), fs[i]? = some f → P.cellsOf f.type = 1 → cs[f.offset]? = some c → ∃ z, DataW.trod enc P w base (fun _ => true) held m f.type [c] = some z ∧ ∀ n ∈ z.1.weights P f.type, n ∈ y.1.weights P t := by
  obtain ⟨xs, m, _, hy, hl, hlen, hf⟩ := DataW.trod_struct ht h
  refine ⟨hl, m, fun i f c hfi hc1 hco => ?_⟩
  have hi : i < xs.length := by
    rw [hlen]
    exact (Array.getElem?_eq_some_iff.1 hfi).1
  have h1 := hf i f hfi
  rw [hc1, List.getElem?_eq_getElem hi] at h1
  obtain ⟨hol, hoc⟩ := List.getElem?_eq_some_iff.1 hco
  have e : (cs.drop f.offset).take 1 = [c] := by
    rw [List.drop_eq_getElem_cons hol, hoc]
    rfl
  rw [e] at h1
  refine ⟨_, h1, fun n hn => ?_⟩
  subst hy
  simp only [DataW.weights, ht]
  refine DataW.weights_mem_each (j := i) (t := f.type) (d := (xs[i]).1) ?_ ?_ n hn
  · rw [List.getElem?_map, Array.getElem?_toList, hfi]; rfl
  · rw [List.getElem?_map, List.getElem?_eq_getElem hi]; rfl
/-- A slice of structs. -/
theorem structs_weigh {t e : TypeId} (ht : P.underlying t = some (.slice e)) (hpos : 0 < P.cellsOf e) {fuel : Nat} {a0 : Option Addr} {len cap : Nat} {y : DataW H × List MemPlace} (h : DataW.trod enc P w base (fun _ => true) held fuel t [.slice a0 len cap] = some y) :
    len = 0 ∨ ∃ b off n, a0 = some ⟨b, off, none⟩ ∧ b < w.heap.size ∧ len ≤ cap ∧ cap ≤ maxLen ∧ ∀ i, i < len → ∃ cs z, cs.length = P.cellsOf e ∧ (∀ j, j < P.cellsOf e → w.cell? ⟨b, off + i * P.cellsOf e + j, none⟩ = cs[j]?) ∧ DataW.trod enc P w base (fun _ => true) held n e cs = some z ∧ ∀ n ∈ z.1.weights P e, n ∈ y.1.weights P t := by
  rcases Go.Deep.open_slice ht h with ⟨hcs, _⟩ | ⟨x, l, c, m, n, D, Pl, hcs, _, hl, hm, hmm, hy, hel⟩
  · left
    simp at hcs
    exact hcs.2.1
  · simp at hcs
    obtain ⟨rfl, rfl, rfl⟩ := hcs
    by_cases h0 : len = 0
    · exact .inl h0
    right
    have hmc : m = cap := by simpa using hmm
    obtain ⟨b, off, spot⟩ := x
    obtain ⟨cs0, hc0, _⟩ := hel 0 (by omega)
    have q0 := (World.cells?_some hc0).2.2 0 hpos
    have hlen0 := (World.cells?_some hc0).2.1
    have hz : ((⟨b, off, spot⟩ : Addr).add (0 * P.cellsOf e)).add 0 = ⟨b, off, spot⟩ := by simp [Addr.add]
    rw [hz] at q0
    have q1 : w.cell? ⟨b, off, spot⟩ = some (cs0[0]'(by omega)) := by rw [q0]; exact List.getElem?_eq_getElem _
    have hspot : spot = none := by simpa using World.cell?_spot q1
    subst hspot
    refine ⟨b, off, n, rfl, World.block_lt_of_cell? w _ q1, hl, hm, fun i hi => ?_⟩
    obtain ⟨cs, hcs, ht'⟩ := hel i (by omega)
    refine ⟨cs, _, (World.cells?_some hcs).2.1, fun j hj => ?_, ht', fun k hk => ?_⟩
    · have hcell := (World.cells?_some hcs).2.2 j hj
      rw [add_none, add_none] at hcell
      exact hcell
    · subst hy
      simp only [DataW.weights, ht, List.mem_cons, List.mem_append]
      exact .inr (.inl (weights_all (d := D i) (List.mem_map.2 ⟨i, List.mem_range.2 hi, rfl⟩) k hk))
end Go.Proofs.YteadmiikenpjeaaDoor
/- Code: the document's laid: the bytes, and where each entry and instruction begins. -/
namespace Go.Proofs.YteadmiikenpjeaaDoor
open Go.RowKit
set_option linter.unusedVariables false

theorem ltr_iff {op : Int} {enc : Bool} (h : isOf op enc = true) {l0 l1 l2 : UInt8} (hl : ofI op = [l0, l1, l2]) : (l0 = 32 ↔ (kin op).1 = 0) ∧ (l1 = 32 ↔ (kin op).2.1 = 0) ∧ (l2 = 32 ↔ (kin op).2.2 = 0) := by
  have q : ∀ c : UInt8, lts.contains c = true → (c = 32 ↔ ltK (c.toNat : Int) = 0) := by
    intro c hc
    have hm : c ∈ lts := by simpa using hc
    unfold lts at hm
    simp only [List.mem_cons, List.not_mem_nil, or_false] at hm
    rcases hm with rfl | rfl | rfl | rfl | rfl | rfl | rfl | rfl | rfl | rfl | rfl | rfl | rfl | rfl | rfl | rfl | rfl <;> decide
  have k0 := ofI_kat h (j := 0) (by omega)
  have k1 := ofI_kat h (j := 1) (by omega)
  have k2 := ofI_kat h (j := 2) (by omega)
  rw [hl] at k0 k1 k2
  simp only [List.getD_cons_zero, List.getD_cons_succ, kat] at k0 k1 k2
  exact ⟨by rw [q l0 k0.2.1, k0.2.2], by rw [q l1 k1.2.1, k1.2.2], by rw [q l2 k2.2.1, k2.2.2]⟩
/-- Where each begins. -/
def posL {α : Type} (f : α → List Int) : Nat → List α → List Int
  | _, [] => []
  | a, x :: r => (a : Int) :: posL f (a + (f x).length) r
theorem posL_snoc {α : Type} (f : α → List Int) : ∀ (l : List α) (a : Nat) (x : α), posL f a (l ++ [x]) = posL f a l ++ [((a + (l.flatMap f).length : Nat) : Int)]
  | [], a, x => by simp [posL]
  | y :: l, a, x => by
    rw [List.cons_append, posL, posL_snoc f l, posL, List.flatMap_cons, List.length_append, List.cons_append, Nat.add_assoc]
theorem posL_len {α : Type} (f : α → List Int) : ∀ (l : List α) (a : Nat), (posL f a l).length = l.length
  | [], a => rfl
  | y :: l, a => by rw [posL, List.length_cons, posL_len f l, List.length_cons]
/-- An instruction that was read. -/
structure OkI (enc : Bool) (x : In) : Prop where
  of : isOf x.op enc = true
  nm : ∀ n ∈ nmd x, -1 ≤ n ∧ n ≤ 2147483648
theorem OkI.len {enc : Bool} {x : In} (h : OkI enc x) : (insB x).length ≤ 40 := by
  have r := isOf_rng h.of
  have a := form_ten x.op.toNat (by omega)
  have b := flat_len (f := opB) (nmd x) (fun n hn => form_ten _ (by have := h.nm n hn; omega))
  have c := nmj_len x (kin x.op) 3
  unfold insB
  unfold nmd at b ⊢
  rw [List.length_append]
  omega
theorem flat_take_len {α : Type} {f : α → List Int} {m : Nat} : ∀ (l : List α), (∀ x ∈ l, (f x).length ≤ m) → (l.flatMap f).length ≤ m * l.length
  | [], _ => by simp
  | x :: l, h => by
    have a := h x (by simp)
    have b := flat_take_len l (fun y hy => h y (by simp [hy]))
    rw [List.flatMap_cons, List.length_append, List.length_cons, Nat.mul_add]
    omega
/-- What lies in memory. -/
structure LdM (w w' : World) (enc : Bool) (pc pe vB vE vC : Value) (b e c : List Int) : Prop where
  p : Blk w' w.heap.size 25 [.bool enc, pc, pe]
  B : BOwn w' w.heap.size vB b
  E : IOwn w' w.heap.size vE e
  C : IOwn w' w.heap.size vC c
  ap : ∀ k, vE.ownBlock = some k → ¬ vC.ownBlock = some k
  bl : Below w.heap.size w w'
section
variable {w w' w'' : World} {enc : Bool} {pc pe vB vE vC : Value} {b e c : List Int}
theorem LdM.later (h : LdM w w' enc pc pe vB vE vC b e c) (hB : Below w'.heap.size w' w'') : LdM w w'' enc pc pe vB vE vC b e c :=
  ⟨h.p.later hB, h.B.later hB, h.E.later hB, h.C.later hB, h.ap, below_to h.bl hB⟩
theorem notB {w : World} {B g : Nat} {u : Value} {l : List Int} {t : TypeId} {ys : List Value} (h : BOwn w B u l) (hb : Blk w g t ys) (ht : t ≠ 5) : ¬ u.ownBlock = some g := fun e => by
  obtain ⟨zs, hz⟩ := ownS_type h e
  exact ht (blk_type hb hz)
theorem LdM.pushE (h : LdM w w' enc pc pe vB vE vC b e c) (x : Int) (hl : e.length ≤ 1048576) : ∃ g cap w'', (Builtin.append_ #[23, 23] 23 #[vE, .slice (some ⟨w'.heap.size, 0, none⟩) 1 1]).run Tryd.prog (w'.alloc (.cells #[.int .i64 x] 3)) = .ok (.slice (some ⟨g, 0, none⟩) (e.length + 1) cap) w'' ∧ LdM w w'' enc pc pe vB (.slice (some ⟨g, 0, none⟩) (e.length + 1) cap) vC b (e ++ [x]) c := by
  obtain ⟨g, cap, w'', h1, h2, h3, h4⟩ := h.E.push x (by omega) h.bl.size
  refine ⟨g, cap, w'', h1, h.p.upd h3 (fun q => notI h.E h.p (by decide) q), ownS_upd h.B h3 (fun k q hk => ?_), h2, h.C.upd h3 (fun k q hk => h.ap k hk q), fun k q hk => ?_, h.bl.trans (h3.below _ h.bl.size (fun k hk => (h.E.lies hk).1))⟩
  · obtain ⟨zs, hz⟩ := ownS_type h.E hk
    exact notB h.B hz (by decide) q
  · have hg : g = k := by simpa [Value.ownBlock] using q
    subst hg
    rcases h4 with h4 | h4
    · exact h.ap _ h4 hk
    · have := (h.C.lies hk).2; omega
theorem LdM.pushC (h : LdM w w' enc pc pe vB vE vC b e c) (x : Int) (hl : c.length ≤ 1048576) : ∃ g cap w'', (Builtin.append_ #[23, 23] 23 #[vC, .slice (some ⟨w'.heap.size, 0, none⟩) 1 1]).run Tryd.prog (w'.alloc (.cells #[.int .i64 x] 3)) = .ok (.slice (some ⟨g, 0, none⟩) (c.length + 1) cap) w'' ∧ LdM w w'' enc pc pe vB vE (.slice (some ⟨g, 0, none⟩) (c.length + 1) cap) b e (c ++ [x]) := by
  obtain ⟨g, cap, w'', h1, h2, h3, h4⟩ := h.C.push x (by omega) h.bl.size
  refine ⟨g, cap, w'', h1, h.p.upd h3 (fun q => notI h.C h.p (by decide) q), ownS_upd h.B h3 (fun k q hk => ?_), h.E.upd h3 (fun k q hk => h.ap k q hk), h2, fun k q hk => ?_, h.bl.trans (h3.below _ h.bl.size (fun k hk => (h.C.lies hk).1))⟩
  · obtain ⟨zs, hz⟩ := ownS_type h.C hk
    exact notB h.B hz (by decide) q
  · have hg : g = k := by simpa [Value.ownBlock] using hk
    subst hg
    rcases h4 with h4 | h4
    · exact h.ap _ q h4
    · have := (h.E.lies q).2; omega
theorem LdM.app (h : LdM w w' enc pc pe vB vE vC b e c) (a : Option Addr) (cap : Nat) (r : List Int) (hrow : Row .u8 w' a r) (hnil : a = none → cap = 0) (hl : b.length + r.length ≤ 1000000000) : ∃ v w'', (Builtin.append_ #[30, 30] 30 #[vB, .slice a r.length cap]).run Tryd.prog w' = .ok v w'' ∧ LdM w w'' enc pc pe v vE vC (b ++ r) e c ∧ ∀ B' u l, IOwn w' B' u l → IOwn w'' B' u l := by
  obtain ⟨v, w'', h1, h2, h3⟩ := run_app elU8 w' 30 w.heap.size vB b.length b h.B a r.length cap r rfl hrow hnil (by unfold maxLen; omega) (by omega) h.bl.size
  have hu : Upd (fun k => vB.ownBlock = some k) w' w'' := (Upd.refl _ w').grown h3 (fun k hk => .inl hk)
  have hI : ∀ B' u l, IOwn w' B' u l → IOwn w'' B' u l := fun B' u l hi => hi.upd hu (fun k q hk => by
    obtain ⟨zs, hz⟩ := ownS_type hi q
    exact notB h.B hz (by decide) hk)
  refine ⟨v, w'', h1, ⟨h.p.upd hu (fun q => notB h.B h.p (by decide) q), ?_, hI _ _ _ h.E, hI _ _ _ h.C, h.ap, h.bl.trans (hu.below _ h.bl.size (fun k hk => (World.ownsRow.lt h.B k hk).1))⟩, hI⟩
  · unfold BOwn
    rw [List.length_append]
    exact h2
end
def p0L (E : List Int) : Nat := 2 + (form E.length).length
def p1L (C : List In) (E : List Int) : Nat := p0L E + (E.flatMap entB).length + (form C.length).length
def preL (enc : Bool) (E : List Int) : List Int := [109, if enc then 1 else 0] ++ form E.length
def LdTo (enc : Bool) (C : List In) (E : List Int) (w : World) (e : Ending) (w' : World) : Prop := ∃ vB vE vC, e = .returned (.tuple #[vB, vE, vC]) ∧ Hid (BOwn w' w.heap.size vB (encP enc C E)) ∧ Hid (IOwn w' w.heap.size vE (posL entB (p0L E) E)) ∧ Hid (IOwn w' w.heap.size vC (posL insB (p1L C E) C)) ∧ Below w.heap.size w w'
set_option maxRecDepth 100000 in
set_option maxHeartbeats 8000000 in
theorem laid_any (enc : Bool) (ac ae : Option Addr) (cc ce : Nat) (C : List In) (E : List Int) (w : World) (hCl : C.length ≤ 1048576) (hEl : E.length ≤ 1048576) (hE : Hid (∀ n ∈ E, 0 ≤ n ∧ n ≤ 2147483648)) (hC : Hid (∀ x ∈ C, OkI enc x)) (hr : Hid (IRow w ac C)) (he : Hid (Row .i64 w ae E)) :
    Calls Tryd.prog 44 #[.agg #[.bool enc, .slice ac C.length cc, .slice ae E.length ce]] w (LdTo enc C E w) := by
  obtain ⟨w1, hw1⟩ : ∃ wx, wx = (w.alloc (.cells #[.bool enc, .slice ac C.length cc, .slice ae E.length ce] 25)).alloc (.cells #[.int .u8 109, .int .u8 0] 5) := ⟨_, rfl⟩
  have hB1 : Below w.heap.size w w1 := by rw [hw1]; exact below2 _ _ _
  obtain ⟨kp, kb⟩ := blk2 w #[.bool enc, .slice ac C.length cc, .slice ae E.length ce] #[.int .u8 109, .int .u8 0] 25 5
  rw [← hw1] at kp kb
  have KP := hide_ kp
  have KB := hide_ kb
  have HB1 := hide_ hB1
  have p0 := kp.cell 0
  have b1 := kb.cell 1
  have bf := fun i => kb.frozen i
  simp at p0 b1
  have HPut := hide_ (fun (n : Nat) w' (hn : n < 18446744073709551616) => rput_any n w' hn)
  clear hB1 kp kb
  go_enter Tryd.func44, Tryd.ntmps44
  go_upto_region 2 with fail
  rw [← hw1]
  clear hw1
  go_upto_if 16 with fail
  go_cut [5] from 17 to 18 (fun x5 wc => ∃ wf, wf = wc ∧ x5 = .slice (some ⟨w.heap.size + 1, 0, none⟩) 2 2 ∧ Hid (LdM w wf enc (.slice ac C.length cc) (.slice ae E.length ce) (.slice (some ⟨w.heap.size + 1, 0, none⟩) 2 2) (.slice none 0 0) (.slice none 0 0) [109, if enc then 1 else 0] [] []))
  case first =>
    cases enc with
    | false =>
      have HL : Hid (LdM w w1 false (.slice ac C.length cc) (.slice ae E.length ce) (.slice (some ⟨w.heap.size + 1, 0, none⟩) 2 2) (.slice none 0 0) (.slice none 0 0) [109, 0] [] []) := hide_ ⟨KP.out, ownS_of_blk (B := w.heap.size) (n := 2) (c := 1) (cap := 2) (ys := cellsL .u8 [109, 0]) KB.out (by omega) rfl (by omega) (by unfold maxLen; omega), IOwn.nil _ _, IOwn.nil _ _, fun k q => by simp [Value.ownBlock] at q, HB1.out⟩
      go_wp2_with fail
      go_meet
      case rel => exact ⟨_, rfl, rfl, HL⟩
    | true =>
      obtain ⟨w2, hw2⟩ : ∃ wx, wx = w1.setCell ⟨w.heap.size + 1, 1, none⟩ (.int .u8 1) := ⟨_, rfl⟩
      have KB2 : Blk w2 (w.heap.size + 1) 5 (cellsL .u8 [109, 1]) := by rw [hw2]; have := KB.out.set 1 (.int .u8 1); simpa [cellsL] using this
      have KP2 : Blk w2 w.heap.size 25 [.bool true, .slice ac C.length cc, .slice ae E.length ce] := by rw [hw2]; exact KP.out.other _ _ (by show w.heap.size ≠ w.heap.size + 1; omega)
      have HB2 : Below w.heap.size w w2 := by rw [hw2]; exact below_set HB1.out _ _ _ (by omega)
      have HL : Hid (LdM w w2 true (.slice ac C.length cc) (.slice ae E.length ce) (.slice (some ⟨w.heap.size + 1, 0, none⟩) 2 2) (.slice none 0 0) (.slice none 0 0) [109, 1] [] []) := hide_ ⟨KP2, ownS_of_blk (B := w.heap.size) (n := 2) (c := 1) (cap := 2) KB2 (by omega) rfl (by omega) (by unfold maxLen; omega), IOwn.nil _ _, IOwn.nil _ _, fun k q => by simp [Value.ownBlock] at q, HB2⟩
      clear KB2 KP2 HB2
      go_wp2_with fail
      rw [← hw2]
      go_meet
      case rel => exact ⟨_, rfl, rfl, HL⟩
  case rest =>
  obtain ⟨w2, rfl, rfl, HL2⟩ := hcut
  clear p0 b1 bf KP KB HB1
  have p2 := HL2.out.p.cell 2
  simp at p2
  have hcE : IntKind.u64.wrap (E.length : Int) = (E.length : Int) := by rw [IntKind.wrap_u64]; omega
  have hcE2 : ((E.length : Int) % 18446744073709551616) = (E.length : Int) := by omega
  have hf10 := form_ten E.length (by omega)
  go_upto_region 6 with (first
    | (go_at_call 65; refine (HPut.out E.length _ (by omega)).mono ?_; rintro e w3 ⟨g3, c3, rfl, HR3, hB3⟩; obtain ⟨vB, w4, hrun, hL4, -⟩ := (HL2.out.later hB3).app _ c3 _ HR3.out (fun h => by cases h) (by simp; omega); (have HRn := hide_ hrun); (have HL4 := hide_ hL4); clear hrun hL4 hB3 HR3)
    | (at_builtin; have _t := HRn; refine wpList_append_run rfl (.tmp 19) (.tmp 24) 30 30 rfl rfl rfl HRn.out ?_; clear HRn))
  have HL5 : Hid (LdM w w4 enc (.slice ac C.length cc) (.slice ae E.length ce) vB (.slice none 0 0) (.slice none 0 0) (preL enc E ++ (E.take 0).flatMap entB) (posL entB (p0L E) (E.take 0)) []) := hide_ (by have := HL4.out; simpa [preL, posL] using this)
  clear HL4 HL2 p2 hcE hcE2
  go_wp2_with fail
  go_loopw [5, 6, 8] (fun x5 x6 x8 wr => ∃ (vB vE : Value) (i : Nat), vB = x5 ∧ vE = x6 ∧ i ≤ E.length ∧ x8 = .int .i64 (i : Int) ∧ Hid (LdM w wr enc (.slice ac C.length cc) (.slice ae E.length ce) vB vE (.slice none 0 0) (preL enc E ++ (E.take i).flatMap entB) (posL entB (p0L E) (E.take i)) [])) (fun _ _ x8 _ => E.length - (intOf x8).toNat)
  case atStart => exact ⟨vB, _, 0, rfl, rfl, Nat.zero_le _, rfl, HL5⟩
  case round =>
    obtain ⟨vB, vE, i, rfl, rfl, hi, rfl, HLi⟩ := hrel
    generalize wr = wq at *
    clear HL5
    have p2 := HLi.out.p.cell 2; have p1 := HLi.out.p.cell 1
    simp at p1 p2
    by_cases hlt : i < E.length
    · have hlt' : (i : Int) < E.length := by omega
      have hx : E[i]? = some (E[i]'hlt) := List.getElem?_eq_getElem hlt
      have hrg := hE.out _ (List.getElem_mem hlt)
      have HT := hide_ (take_flat (f := entB) hx)
      have HPs : Hid (posL entB (p0L E) (E.take (i + 1)) = posL entB (p0L E) (E.take i) ++ [((p0L E + ((E.take i).flatMap entB).length : Nat) : Int)]) := hide_ (by rw [List.take_add_one, hx]; exact posL_snoc entB (E.take i) (p0L E) _)
      have hgd : E.getD i 0 = E[i]'hlt := by rw [List.getD, hx]; rfl
      obtain ⟨n, hn⟩ := Int.eq_ofNat_of_zero_le hrg.1
      have HEn : Hid (entB (E[i]'hlt) = form n) := hide_ (by unfold entB; rw [hn]; rfl)
      have hbl : (preL enc E ++ (E.take i).flatMap entB).length = p0L E + ((E.take i).flatMap entB).length := by unfold preL p0L; simp; omega
      have hbl2 : ((E.take i).flatMap entB).length ≤ 10 * 1048576 := by
        have := flat_take_len (f := entB) (m := 10) (E.take i) (fun y hy => form_ten _ (by have := hE.out y (List.mem_of_mem_take hy); omega))
        rw [List.length_take] at this
        omega
      have hp0 : p0L E ≤ 12 := by unfold p0L; omega
      have hfn := form_ten n (by omega)
      obtain ⟨aB, cB, hvB, -⟩ := HLi.out.B.row
      subst hvB
      obtain ⟨g, cap, w5, hrunE, hL5⟩ := HLi.out.pushE ((preL enc E ++ (E.take i).flatMap entB).length : Int) (by rw [posL_len, List.length_take]; omega)
      have HRn := hide_ hrunE
      have HL5 := hide_ hL5
      obtain ⟨b, off, rfl, -, hcs⟩ := (he.out.later hL5.bl).open (by omega)
      have hc := hcs i hlt
      rw [hgd, hn] at hc
      have q2 := hL5.p.cell 2
      simp at q2
      have hLb : (preL enc E ++ (E.take i).flatMap entB).length ≤ 100000000 := by omega
      have HPl := hide_ hbl
      generalize hbb : preL enc E ++ (E.take i).flatMap entB = bb at *
      have HBb := hide_ hbb
      clear hrunE hL5 hcs hx hgd hbl hbl2 hbb
      generalize E[i]'hlt = ei at *
      generalize posL entB (p0L E) (E.take i) = ps at *
      have hcv : IntKind.u64.wrap ((n : Nat) : Int) = ((n : Nat) : Int) := by rw [IntKind.wrap_u64]; omega
      have HA : Hid (∀ w', Below w5.heap.size w5 w' → ∀ (g3 c3 : Nat), Row .u8 w' (some ⟨g3, 0, none⟩) (form n) → ∃ v w'', (Builtin.append_ #[30, 30] 30 #[.slice aB bb.length cB, .slice (some ⟨g3, 0, none⟩) (form n).length c3]).run Tryd.prog w' = .ok v w'' ∧ LdM w w'' enc (.slice ac C.length cc) (.slice (some ⟨b, off, none⟩) E.length ce) v (.slice (some ⟨g, 0, none⟩) (ps.length + 1) cap) (.slice none 0 0) (preL enc E ++ (E.take (i + 1)).flatMap entB) (posL entB (p0L E) (E.take (i + 1))) []) := hide_ (fun w' hb g3 c3 hr3 => by
        obtain ⟨v, w'', h1, h2, -⟩ := (HL5.out.later hb).app (some ⟨g3, 0, none⟩) c3 (form n) hr3 (fun h => by cases h) (by omega)
        refine ⟨v, w'', h1, ?_⟩
        rw [HPs.out, HT.out, HEn.out, ← List.append_assoc, HBb.out, ← HPl.out]
        exact h2)
      go_wp2_with (first
        | (at_builtin; have _t := HRn; refine wpList_append_run rfl (.tmp 33) (.tmp 36) 23 23 rfl rfl rfl HRn.out ?_; clear HRn p1 p2)
        | (go_at_call 65; refine (HPut.out n _ (by omega)).mono ?_; rintro e w3 ⟨g3, c3, rfl, HR3, hB3⟩; obtain ⟨vn, w6, hrun6, hL6⟩ := HA.out w3 hB3 g3 c3 HR3.out; (have HR6 := hide_ hrun6); (have HL6 := hide_ hL6); clear hrun6 hL6 hB3 HR3)
        | (at_builtin; have _t := HR6; refine wpList_append_run rfl (.tmp 38) (.tmp 45) 30 30 rfl rfl rfl HR6.out ?_; clear HR6))
      go_roundw
      case rel => exact ⟨vn, _, i + 1, rfl, rfl, by omega, by go_num, HL6⟩
      case measure => simp [intOf]; omega
    · obtain rfl : i = E.length := by omega
      have HLe := HLi.out
      rw [List.take_length] at HLe
      have HL7 := hide_ HLe
      clear HLe HLi
      have hbl2 : (E.flatMap entB).length ≤ 10 * 1048576 := by
        have := flat_take_len (f := entB) (m := 10) E (fun y hy => form_ten _ (by have := hE.out y hy; omega))
        omega
      have hp0 : p0L E ≤ 12 := by unfold p0L; omega
      have hbl : (preL enc E ++ E.flatMap entB).length = p0L E + (E.flatMap entB).length := by unfold preL p0L; simp; omega
      have hfc := form_ten C.length (by omega)
      have HA : Hid (∀ w', Below wq.heap.size wq w' → ∀ (g3 c3 : Nat), Row .u8 w' (some ⟨g3, 0, none⟩) (form C.length) → ∃ v w'', (Builtin.append_ #[30, 30] 30 #[vB, .slice (some ⟨g3, 0, none⟩) (form C.length).length c3]).run Tryd.prog w' = .ok v w'' ∧ LdM w w'' enc (.slice ac C.length cc) (.slice ae E.length ce) v vE (.slice none 0 0) (preL enc E ++ E.flatMap entB ++ form C.length ++ (C.take 0).flatMap insB) (posL entB (p0L E) E) (posL insB (p1L C E) (C.take 0))) := hide_ (fun w' hb g3 c3 hr3 => by
        obtain ⟨v, w'', h1, h2, -⟩ := (HL7.out.later hb).app (some ⟨g3, 0, none⟩) c3 (form C.length) hr3 (fun h => by cases h) (by omega)
        exact ⟨v, w'', h1, by simpa [posL] using h2⟩)
      have hPl : (preL enc E ++ E.flatMap entB ++ form C.length).length = p1L C E := by rw [List.length_append, hbl]; rfl
      have hp1 : p1L C E ≤ 20000000 := by unfold p1L; omega
      generalize hpr : preL enc E ++ E.flatMap entB ++ form C.length = pr at *
      have HPr := hide_ hpr
      have HPl := hide_ hPl
      clear hbl hpr hPl hbl2
      go_upto_region 12 with (first
        | (go_at_call 65; refine (HPut.out C.length _ (by omega)).mono ?_; rintro e w3 ⟨g3, c3, rfl, HR3, hB3⟩; obtain ⟨vn, w6, hrun6, hL6⟩ := HA.out w3 hB3 g3 c3 HR3.out; (have HR6 := hide_ hrun6); (have HL6 := hide_ hL6); clear hrun6 hL6 hB3 HR3)
        | (at_builtin; have _t := HR6; refine wpList_append_run rfl (.tmp 47) (.tmp 52) 30 30 rfl rfl rfl HR6.out ?_; clear HR6))
      clear p1 p2 HA HL7
      go_wp2_with fail
      go_loopw [5, 7, 9] (fun x5 x7 x9 wr => ∃ (vB vC : Value) (i : Nat), vB = x5 ∧ vC = x7 ∧ i ≤ C.length ∧ x9 = .int .i64 (i : Int) ∧ Hid (LdM w wr enc (.slice ac C.length cc) (.slice ae E.length ce) vB vE vC (pr ++ (C.take i).flatMap insB) (posL entB (p0L E) E) (posL insB (p1L C E) (C.take i)))) (fun _ _ x9 _ => C.length - (intOf x9).toNat)
      case atStart => exact ⟨vn, _, 0, rfl, rfl, Nat.zero_le _, rfl, HL6⟩
      case round =>
        obtain ⟨vB, vC, i, rfl, rfl, hi, rfl, HLi⟩ := hrel
        generalize wr = wr1 at *
        clear HL6
        have p1 := HLi.out.p.cell 1; have p0 := HLi.out.p.cell 0
        simp at p0 p1
        by_cases hlt : i < C.length
        · have hlt' : (i : Int) < C.length := by omega
          have hx : C[i]? = some (C[i]'hlt) := List.getElem?_eq_getElem hlt
          have hok := hC.out _ (List.getElem_mem hlt)
          have HT := hide_ (take_flat (f := insB) hx)
          have HPs : Hid (posL insB (p1L C E) (C.take (i + 1)) = posL insB (p1L C E) (C.take i) ++ [((p1L C E + ((C.take i).flatMap insB).length : Nat) : Int)]) := hide_ (by rw [List.take_add_one, hx]; exact posL_snoc insB (C.take i) (p1L C E) _)
          have HXi := hide_ hx
          generalize C[i]'hlt = x at *
          have hoo := isOf_rng hok.of
          obtain ⟨n, hn⟩ := Int.eq_ofNat_of_zero_le (show 0 ≤ x.op by omega)
          have hbl2 : ((C.take i).flatMap insB).length ≤ 40 * 1048576 := by
            have := flat_take_len (f := insB) (m := 40) (C.take i) (fun y hy => (hC.out y (List.mem_of_mem_take hy)).len)
            rw [List.length_take] at this
            omega
          have hbl : (pr ++ (C.take i).flatMap insB).length = p1L C E + ((C.take i).flatMap insB).length := by rw [List.length_append, HPl.out]
          have hfn := form_ten n (by omega)
          obtain ⟨aB, cB, hvB, -⟩ := HLi.out.B.row
          subst hvB
          obtain ⟨g, cap, w5, hrunE, hL5⟩ := HLi.out.pushC ((pr ++ (C.take i).flatMap insB).length : Int) (by rw [posL_len, List.length_take]; omega)
          have HRn := hide_ hrunE
          have HL5 := hide_ hL5
          obtain ⟨bC, oC, rfl, -, -⟩ := hr.out.open (by omega)
          have HRw : Hid (∀ w', Below w5.heap.size w5 w' → IRow w' (some ⟨bC, oC, none⟩) C) := hide_ (fun w' hb => hr.out.later (below_to hL5.bl hb))
          have hc0 := (IRow.at (HRw.out w5 (Below.refl _ _)) HXi.out).1
          rw [hn] at hc0
          have q1 := hL5.p.cell 1
          simp at q1
          have hLb : (pr ++ (C.take i).flatMap insB).length ≤ 100000000 := by omega
          have HBl := hide_ hbl
          generalize hbb : pr ++ (C.take i).flatMap insB = bb at *
          have HBb := hide_ hbb
          clear hrunE hL5 hx hbl hbl2 hbb
          generalize posL insB (p1L C E) (C.take i) = ps at *
          have HA : Hid (∀ w', Below w5.heap.size w5 w' → ∀ (g3 c3 : Nat), Row .u8 w' (some ⟨g3, 0, none⟩) (form n) → ∃ v w'', (Builtin.append_ #[30, 30] 30 #[.slice aB bb.length cB, .slice (some ⟨g3, 0, none⟩) (form n).length c3]).run Tryd.prog w' = .ok v w'' ∧ LdM w w'' enc (.slice (some ⟨bC, oC, none⟩) C.length cc) (.slice ae E.length ce) v vE (.slice (some ⟨g, 0, none⟩) (ps.length + 1) cap) (bb ++ form n) (posL entB (p0L E) E) (ps ++ [(bb.length : Int)])) := hide_ (fun w' hb g3 c3 hr3 => by
            obtain ⟨v, w'', h1, h2, -⟩ := (HL5.out.later hb).app (some ⟨g3, 0, none⟩) c3 (form n) hr3 (fun h => by cases h) (by omega)
            exact ⟨v, w'', h1, h2⟩)
          go_upto_region 17 with (first
            | (at_builtin; have _t := HRn; refine wpList_append_run rfl (.tmp 61) (.tmp 64) 23 23 rfl rfl rfl HRn.out ?_; clear HRn p0 p1)
            | (go_at_call 65; refine (HPut.out n _ (by omega)).mono ?_; rintro e w3 ⟨g3, c3, rfl, HR3, hB3⟩; obtain ⟨vn2, wa, hrun6, hL6⟩ := HA.out w3 hB3 g3 c3 HR3.out; (have HR6 := hide_ hrun6); (have HLa := hide_ hL6); clear hrun6 hL6 hB3 HR3)
            | (at_builtin; have _t := HR6; refine wpList_append_run rfl (.tmp 66) (.tmp 74) 30 30 rfl rfl rfl HR6.out ?_; clear HR6))
          clear HA HL5 hc0 q1 HLi HRw
          have HRa := hide_ (hr.out.later HLa.out.bl)
          obtain ⟨l0, l1, l2, hl⟩ := three (ofI_kat hok.of (j := 0) (by omega)).1
          have hsl : ofL x.op enc = ⟨#[l0, l1, l2]⟩ := by unfold ofL; rw [if_pos hok.of, hl]
          obtain ⟨i0, i1, i2⟩ := ltr_iff hok.of hl
          have HOf : Hid (∀ w', Calls Tryd.prog 20 #[.int .i64 x.op, .bool enc] w' fun e w'' => e = .returned (.tuple #[.agg #[.string (ofN x.op enc), .string ⟨#[l0, l1, l2]⟩], .bool true]) ∧ Below w'.heap.size w' w'') := hide_ (fun w' => by have := of_any x.op enc w'; rw [hsl, hok.of] at this; exact this)
          have HOp := hide_ (fun w' => roperands_any x (ofN x.op enc) l0 l1 l2 (kin x.op) i0 i1 i2 w')
          have HSS : Hid (∀ w', Below wa.heap.size wa w' → (fun w' => w'.cell? ⟨w.heap.size, 0, none⟩ = some (.bool enc) ∧ w'.cell? ⟨w.heap.size, 1, none⟩ = some (.slice (some ⟨bC, oC, none⟩) C.length cc) ∧ w'.cell? ⟨bC, oC + i * 4, none⟩ = some (.int .i64 x.op)) w') := hide_ (fun w' hb => ⟨(HLa.out.later hb).p.cell 0, (HLa.out.later hb).p.cell 1, (IRow.at (HRa.out.later hb) HXi.out).1⟩)
          have HInB : Hid (insB x = form n ++ (nmd x).flatMap opB) := hide_ (by unfold insB; rw [hn]; rfl)
          have HNm := hide_ hok.nm
          have hnml : (nmd x).length ≤ 3 := nmj_len x (kin x.op) 3
          clear hl hsl i0 i1 i2 hn
          go_cut [10, 11] from 76 to 87 (fun x10 x11 wc => ∃ (gf : Nat) (wf : World), wf = wc ∧ x10 = .pointer (some ⟨gf, 0, none⟩) ∧ Hid (Blk wf gf 52 [.string (ofN x.op enc), .string ⟨#[l0, l1, l2]⟩]) ∧ Hid (Below wa.heap.size wa wf))
          case first =>
            refine wp_region_last 14 (fun w' => w'.cell? ⟨w.heap.size, 0, none⟩ = some (.bool enc) ∧ w'.cell? ⟨w.heap.size, 1, none⟩ = some (.slice (some ⟨bC, oC, none⟩) C.length cc) ∧ w'.cell? ⟨bC, oC + i * 4, none⟩ = some (.int .i64 x.op)) (by kernel_rfl) (HSS.out _ ((Below.refl wa.heap.size wa).drew)) (fun hHeld => ?_)
            refine wpAnyF_take [14] (by kernel_rfl) (i := 0) (v := ?vp1) rfl (by kernel_rfl) (by kernel_rfl) (by kernel_rfl) (fun _ _ _ h => h) (Or.inl ⟨by kernel_rfl, ?hyp1⟩) hHeld ?restp1
            case hyp1 => intro w' hSw; (try dsimp only at hSw); go_simp; try with_reducible rfl
            simp only [Act.put]
            refine wpAnyF_take [14] (by kernel_rfl) (i := 1) (v := ?vp2) rfl (by kernel_rfl) (by kernel_rfl) (by kernel_rfl) (fun _ _ _ h => h) (Or.inl ⟨by kernel_rfl, ?hyp2⟩) hHeld ?restp2
            case hyp2 => intro w' hSw; (try dsimp only at hSw); go_simp; try with_reducible rfl
            simp only [Act.put]
            refine wpAnyF_take [14] (by kernel_rfl) (i := 2) (v := ?vp3) rfl (by kernel_rfl) (by kernel_rfl) (by kernel_rfl) (fun _ _ _ h => h) (Or.inl ⟨by kernel_rfl, ?hyp3⟩) hHeld ?restp3
            case hyp3 => intro w' hSw; (try dsimp only at hSw); go_simp; try with_reducible rfl
            simp only [Act.put]
            refine wpAnyF_take [14] (by kernel_rfl) (i := 3) (v := ?vp4) rfl (by kernel_rfl) (by kernel_rfl) (by kernel_rfl) (fun _ _ _ h => h) (Or.inl ⟨by kernel_rfl, ?hyp4⟩) hHeld ?restp4
            case hyp4 => intro w' hSw; (try dsimp only at hSw); go_simp; try with_reducible rfl
            simp only [Act.put]
            refine wpAnyF_take [14] (by kernel_rfl) (i := 4) (v := ?vp5) rfl (by kernel_rfl) (by kernel_rfl) (by kernel_rfl) (fun _ _ _ h => h) (Or.inl ⟨by kernel_rfl, ?hyp5⟩) hHeld ?restp5
            case hyp5 => intro w' hSw; (try dsimp only at hSw); go_simp; try with_reducible rfl
            simp only [Act.put]
            refine wpAnyF_take [14] (by kernel_rfl) (i := 5) (v := ?vp6) rfl (by kernel_rfl) (by kernel_rfl) (by kernel_rfl) (fun _ _ _ h => h) (Or.inl ⟨by kernel_rfl, ?hyp6⟩) hHeld ?restp6
            case hyp6 => intro w' hSw; (try dsimp only at hSw); go_simp; try with_reducible rfl
            simp only [Act.put]
            refine wpAnyF_take [14] (by kernel_rfl) (i := 6) (v := ?vp7) rfl (by kernel_rfl) (by kernel_rfl) (by kernel_rfl) (fun _ _ _ h => h) (Or.inl ⟨by kernel_rfl, ?hyp7⟩) hHeld ?restp7
            case hyp7 => intro w' hSw; (try dsimp only at hSw); go_simp; try with_reducible rfl
            simp only [Act.put]
            refine wpAnyF_take [14] (by kernel_rfl) (i := 7) (v := ?vp8) rfl (by kernel_rfl) (by kernel_rfl) (by kernel_rfl) (fun _ _ _ h => h) (Or.inl ⟨by kernel_rfl, ?hyp8⟩) hHeld ?restp8
            case hyp8 => intro w' hSw; (try dsimp only at hSw); go_simp; try with_reducible rfl
            simp only [Act.put]
            refine wpAnyF_ready (rs := [8, 12]) (by kernel_rfl) (by simp) ?_
            refine AllReadyF.cons rfl (fun K hK => ?_) ?_
            · go_simp
              refine (HOf.out _).mono ?_
              rintro e wO ⟨rfl, hbO⟩
              dsimp only
              have HX := hide_ (below_to ((Below.refl wa.heap.size wa).drew) hbO)
              clear hbO
              refine hK.out _ _ (HSS.out _ HX.out) (fun hHeld => ?_)
              clear hK K
              refine wpAnyF_take [14] (by kernel_rfl) (i := 9) (v := ?vp9) rfl (by kernel_rfl) (by kernel_rfl) (by kernel_rfl) (fun _ _ _ h => h) (Or.inl ⟨by kernel_rfl, ?hyp9⟩) hHeld ?restp9
              case hyp9 => intro w' hSw; (try dsimp only at hSw); go_simp; try with_reducible rfl
              simp only [Act.put]
              refine wpAnyF_take [14] (by kernel_rfl) (i := 10) (v := ?vp10) rfl (by kernel_rfl) (by kernel_rfl) (by kernel_rfl) (fun _ _ _ h => h) (Or.inl ⟨by kernel_rfl, ?hyp10⟩) hHeld ?restp10
              case hyp10 => intro w' hSw; (try dsimp only at hSw); go_simp; try with_reducible rfl
              simp only [Act.put]
              refine wpAnyF_take [14] (by kernel_rfl) (i := 11) (v := ?vp11) rfl (by kernel_rfl) (by kernel_rfl) (by kernel_rfl) (fun _ _ _ h => h) (Or.inl ⟨by kernel_rfl, ?hyp11⟩) hHeld ?restp11
              case hyp11 => intro w' hSw; (try dsimp only at hSw); go_simp; try with_reducible rfl
              simp only [Act.put]
              refine wpAnyF_ready (rs := [12]) (by kernel_rfl) (by simp) ?_
              refine AllReadyF.cons rfl (fun K hK => ?_) AllReadyF.nil
              go_simp
              obtain ⟨wA, hwA⟩ : ∃ wx, wx = World.alloc wO (.cells #[.string ⟨#[]⟩, .string ⟨#[]⟩] 52) := ⟨_, rfl⟩
              have KA : Hid (Blk wA wO.heap.size 52 [.string ⟨#[]⟩, .string ⟨#[]⟩]) := hide_ (by rw [hwA]; exact Blk.newA _ _ _)
              have hbA : Below wO.heap.size wO wA := by rw [hwA]; exact below1 _ _
              have HGA : Hid (wa.heap.size ≤ wO.heap.size) := hide_ HX.out.size
              have HX := hide_ (below_to HX.out hbA)
              try rw [← hwA]
              clear hwA hbA
              refine hK.out _ _ (HSS.out _ HX.out) (fun hHeld => ?_)
              clear hK K
              refine wpAnyF_ready (rs := [13]) (by kernel_rfl) (by simp) ?_
              refine AllReadyF.cons rfl (fun K hK => ?_) AllReadyF.nil
              have z0 := KA.out.cell 0; have z1 := KA.out.cell 1
              have zf := fun i => KA.out.frozen i
              simp at z0 z1
              go_simp
              have KS := hide_ (wr2o KA.out (.string (ofN x.op enc)) (.string ⟨#[l0, l1, l2]⟩))
              have HX := hide_ (below_set (below_set HX.out _ 0 (.string (ofN x.op enc)) HGA.out) _ 1 (.string ⟨#[l0, l1, l2]⟩) HGA.out)
              refine hK.out _ _ (HSS.out _ HX.out) (fun hHeld => ?_)
              clear hK K
              refine wpAnyF_ready (rs := [14]) (by kernel_rfl) (by simp) ?_
              refine AllReadyF.last rfl (fun K hK => ?_)
              go_simp
              refine hK.out _ _ ?_
              clear hK K
              refine wpAnyF_done (by kernel_rfl) ?_ _
              go_wp2_with fail
              go_meet
              case rel => exact ⟨_, _, rfl, rfl, KS, HX⟩
            refine AllReadyF.cons rfl (fun K hK => ?_) AllReadyF.nil
            go_simp
            obtain ⟨wA, hwA⟩ : ∃ wx, wx = (World.alloc wa (.cells #[.string ⟨#[]⟩, .string ⟨#[]⟩] 52)).drew := ⟨_, rfl⟩
            have KA : Hid (Blk wA wa.heap.size 52 [.string ⟨#[]⟩, .string ⟨#[]⟩]) := hide_ (by rw [hwA]; exact (Blk.newA _ _ _).drew)
            have HGA : Hid (wa.heap.size ≤ wa.heap.size) := hide_ (Nat.le_refl _)
            have HX : Hid (Below wa.heap.size wa wA) := hide_ (by rw [hwA]; exact (below1 _ _).drew)
            try rw [← hwA]
            clear hwA
            refine hK.out _ _ (HSS.out _ HX.out) (fun hHeld => ?_)
            clear hK K
            refine wpAnyF_ready (rs := [8]) (by kernel_rfl) (by simp) ?_
            refine AllReadyF.cons rfl (fun K hK => ?_) AllReadyF.nil
            go_simp
            refine (HOf.out _).mono ?_
            rintro e wO ⟨rfl, hbO⟩
            dsimp only
            have KA := hide_ (KA.out.later hbO)
            have HX := hide_ (below_to (HX.out) hbO)
            clear hbO
            refine hK.out _ _ (HSS.out _ HX.out) (fun hHeld => ?_)
            clear hK K
            refine wpAnyF_take [14] (by kernel_rfl) (i := 9) (v := ?vp12) rfl (by kernel_rfl) (by kernel_rfl) (by kernel_rfl) (fun _ _ _ h => h) (Or.inl ⟨by kernel_rfl, ?hyp12⟩) hHeld ?restp12
            case hyp12 => intro w' hSw; (try dsimp only at hSw); go_simp; try with_reducible rfl
            simp only [Act.put]
            refine wpAnyF_take [14] (by kernel_rfl) (i := 10) (v := ?vp13) rfl (by kernel_rfl) (by kernel_rfl) (by kernel_rfl) (fun _ _ _ h => h) (Or.inl ⟨by kernel_rfl, ?hyp13⟩) hHeld ?restp13
            case hyp13 => intro w' hSw; (try dsimp only at hSw); go_simp; try with_reducible rfl
            simp only [Act.put]
            refine wpAnyF_take [14] (by kernel_rfl) (i := 11) (v := ?vp14) rfl (by kernel_rfl) (by kernel_rfl) (by kernel_rfl) (fun _ _ _ h => h) (Or.inl ⟨by kernel_rfl, ?hyp14⟩) hHeld ?restp14
            case hyp14 => intro w' hSw; (try dsimp only at hSw); go_simp; try with_reducible rfl
            simp only [Act.put]
            refine wpAnyF_ready (rs := [13]) (by kernel_rfl) (by simp) ?_
            refine AllReadyF.cons rfl (fun K hK => ?_) AllReadyF.nil
            have z0 := KA.out.cell 0; have z1 := KA.out.cell 1
            have zf := fun i => KA.out.frozen i
            simp at z0 z1
            go_simp
            have KS := hide_ (wr2o KA.out (.string (ofN x.op enc)) (.string ⟨#[l0, l1, l2]⟩))
            have HX := hide_ (below_set (below_set HX.out _ 0 (.string (ofN x.op enc)) HGA.out) _ 1 (.string ⟨#[l0, l1, l2]⟩) HGA.out)
            refine hK.out _ _ (HSS.out _ HX.out) (fun hHeld => ?_)
            clear hK K
            refine wpAnyF_ready (rs := [14]) (by kernel_rfl) (by simp) ?_
            refine AllReadyF.last rfl (fun K hK => ?_)
            go_simp
            refine hK.out _ _ ?_
            clear hK K
            refine wpAnyF_done (by kernel_rfl) ?_ _
            go_wp2_with fail
            go_meet
            case rel => exact ⟨_, _, rfl, rfl, KS, HX⟩
          case rest =>
          obtain ⟨gf, wb, rfl, rfl, KF, HBab⟩ := hcut
          have HLb := hide_ (HLa.out.later HBab.out)
          have HRb := hide_ (HRa.out.later HBab.out)
          clear HSS HLa HRa HOf
          have HSS : Hid (∀ w', Below wb.heap.size wb w' → (fun w' => w'.cell? ⟨w.heap.size, 1, none⟩ = some (.slice (some ⟨bC, oC, none⟩) C.length cc) ∧ w'.cell? ⟨bC, oC + i * 4, none⟩ = some (.int .i64 x.op) ∧ w'.cell? ⟨bC, oC + i * 4 + 1, none⟩ = some (.int .i64 x.a) ∧ w'.cell? ⟨bC, oC + i * 4 + 2, none⟩ = some (.int .i64 x.b) ∧ w'.cell? ⟨bC, oC + i * 4 + 3, none⟩ = some (.int .i64 x.c) ∧ w'.cell? ⟨gf, 0, none⟩ = some (.string (ofN x.op enc)) ∧ w'.cell? ⟨gf, 1, none⟩ = some (.string ⟨#[l0, l1, l2]⟩)) w') := hide_ (fun w' hb => ⟨(HLb.out.later hb).p.cell 1, (IRow.at (HRb.out.later hb) HXi.out).1, (IRow.at (HRb.out.later hb) HXi.out).2.1, (IRow.at (HRb.out.later hb) HXi.out).2.2.1, (IRow.at (HRb.out.later hb) HXi.out).2.2.2, (KF.out.later hb).cell 0, (KF.out.later hb).cell 1⟩)
          go_upto_region 18 with fail
          go_cut [12] from 88 to 94 (fun x12 wc => ∃ (vL : Value) (wf : World), wf = wc ∧ x12 = vL ∧ Hid (IOwn wf wb.heap.size vL (nmd x)) ∧ Hid (Below wb.heap.size wb wf))
          case first =>
            refine wp_region_last 7 (fun w' => w'.cell? ⟨w.heap.size, 1, none⟩ = some (.slice (some ⟨bC, oC, none⟩) C.length cc) ∧ w'.cell? ⟨bC, oC + i * 4, none⟩ = some (.int .i64 x.op) ∧ w'.cell? ⟨bC, oC + i * 4 + 1, none⟩ = some (.int .i64 x.a) ∧ w'.cell? ⟨bC, oC + i * 4 + 2, none⟩ = some (.int .i64 x.b) ∧ w'.cell? ⟨bC, oC + i * 4 + 3, none⟩ = some (.int .i64 x.c) ∧ w'.cell? ⟨gf, 0, none⟩ = some (.string (ofN x.op enc)) ∧ w'.cell? ⟨gf, 1, none⟩ = some (.string ⟨#[l0, l1, l2]⟩)) (by kernel_rfl) (HSS.out _ ((Below.refl wb.heap.size wb).drew)) (fun hHeld => ?_)
            refine wpAnyF_take [7] (by kernel_rfl) (i := 0) (v := ?vo1) rfl (by kernel_rfl) (by kernel_rfl) (by kernel_rfl) (fun _ _ _ h => h) (Or.inl ⟨by kernel_rfl, ?hyo1⟩) hHeld ?resto1
            case hyo1 => intro w' hSw; (try dsimp only at hSw); go_simp; try with_reducible rfl
            simp only [Act.put]
            refine wpAnyF_take [7] (by kernel_rfl) (i := 1) (v := ?vo2) rfl (by kernel_rfl) (by kernel_rfl) (by kernel_rfl) (fun _ _ _ h => h) (Or.inl ⟨by kernel_rfl, ?hyo2⟩) hHeld ?resto2
            case hyo2 => intro w' hSw; (try dsimp only at hSw); go_simp; try with_reducible rfl
            simp only [Act.put]
            refine wpAnyF_take [7] (by kernel_rfl) (i := 2) (v := ?vo3) rfl (by kernel_rfl) (by kernel_rfl) (by kernel_rfl) (fun _ _ _ h => h) (Or.inl ⟨by kernel_rfl, ?hyo3⟩) hHeld ?resto3
            case hyo3 => intro w' hSw; (try dsimp only at hSw); go_simp; try with_reducible rfl
            simp only [Act.put]
            refine wpAnyF_take [7] (by kernel_rfl) (i := 3) (v := ?vo4) rfl (by kernel_rfl) (by kernel_rfl) (by kernel_rfl) (fun _ _ _ h => h) (Or.inl ⟨by kernel_rfl, ?hyo4⟩) hHeld ?resto4
            case hyo4 => intro w' hSw; (try dsimp only at hSw); go_simp; try with_reducible rfl
            simp only [Act.put]
            refine wpAnyF_take [7] (by kernel_rfl) (i := 4) (v := ?vo5) rfl (by kernel_rfl) (by kernel_rfl) (by kernel_rfl) (fun _ _ _ h => h) (Or.inl ⟨by kernel_rfl, ?hyo5⟩) hHeld ?resto5
            case hyo5 => intro w' hSw; (try dsimp only at hSw); go_simp; try with_reducible rfl
            simp only [Act.put]
            refine wpAnyF_take [7] (by kernel_rfl) (i := 5) (v := ?vo6) rfl (by kernel_rfl) (by kernel_rfl) (by kernel_rfl) (fun _ _ _ h => h) (Or.inl ⟨by kernel_rfl, ?hyo6⟩) hHeld ?resto6
            case hyo6 => intro w' hSw; (try dsimp only at hSw); go_simp; try with_reducible rfl
            simp only [Act.put]
            refine wpAnyF_ready (rs := [6]) (by kernel_rfl) (by simp) ?_
            refine AllReadyF.cons rfl (fun K hK => ?_) AllReadyF.nil
            go_simp
            refine (HOp.out _).mono ?_
            rintro e wO ⟨⟨vL, rfl, HOl⟩, hbO⟩
            dsimp only
            have HX := hide_ (below_to ((Below.refl wb.heap.size wb).drew) hbO)
            clear hbO
            refine hK.out _ _ (HSS.out _ HX.out) (fun hHeld => ?_)
            clear hK K
            refine wpAnyF_ready (rs := [7]) (by kernel_rfl) (by simp) ?_
            refine AllReadyF.last rfl (fun K hK => ?_)
            go_simp
            refine hK.out _ _ ?_
            clear hK K
            refine wpAnyF_done (by kernel_rfl) ?_ _
            go_wp2_with fail
            go_meet
            case rel => exact ⟨vL, _, rfl, rfl, hide_ (own_base HOl.out (Nat.le_refl _)), HX⟩
          case rest =>
          obtain ⟨vL, wc, rfl, rfl, HOl, HBbc⟩ := hcut
          have HLc := hide_ (HLb.out.later HBbc.out)
          clear HSS HLb HRb HOp KF
          obtain ⟨aL, cL, hvL, -⟩ := HOl.out.row
          subst hvL
          have HLd : Hid (LdM w wc enc (.slice (some ⟨bC, oC, none⟩) C.length cc) (.slice ae E.length ce) vn2 vE (.slice (some ⟨g, 0, none⟩) (ps.length + 1) cap) (bb ++ form n ++ ((nmd x).take 0).flatMap opB) (posL entB (p0L E) E) (ps ++ [(bb.length : Int)])) := hide_ (by simpa using HLc.out)
          clear HLc
          generalize hnm : nmd x = nm at *
          clear hnm
          go_wp2_with fail
          go_loopw [5, 13] (fun x5 x13 wr => ∃ (vB : Value) (k : Nat), vB = x5 ∧ k ≤ nm.length ∧ x13 = .int .i64 (k : Int) ∧ Hid (LdM w wr enc (.slice (some ⟨bC, oC, none⟩) C.length cc) (.slice ae E.length ce) vB vE (.slice (some ⟨g, 0, none⟩) (ps.length + 1) cap) (bb ++ form n ++ (nm.take k).flatMap opB) (posL entB (p0L E) E) (ps ++ [(bb.length : Int)])) ∧ Hid (IOwn wr wb.heap.size (.slice aL nm.length cL) nm)) (fun _ x13 _ => nm.length - (intOf x13).toNat)
          case atStart => exact ⟨vn2, 0, rfl, Nat.zero_le _, rfl, HLd, HOl⟩
          case round =>
            obtain ⟨vB, k, rfl, hk, rfl, HLk, HOk⟩ := hrel
            generalize wr = wk at *
            clear HLd HOl
            by_cases hkl : k < nm.length
            · have hkl' : (k : Int) < nm.length := by omega
              have hx : nm[k]? = some (nm[k]'hkl) := List.getElem?_eq_getElem hkl
              have hrg := HNm.out _ (List.getElem_mem hkl)
              have HTk := hide_ (take_flat (f := opB) hx)
              have hgd : nm.getD k 0 = nm[k]'hkl := by rw [List.getD, hx]; rfl
              generalize nm[k]'hkl = y at *
              obtain ⟨m, hm⟩ := Int.eq_ofNat_of_zero_le (show 0 ≤ y + 1 by omega)
              have HOm : Hid (opB y = form m) := hide_ (by unfold opB; rw [hm]; rfl)
              have hfm := form_ten m (by omega)
              have hb3 : ((nm.take k).flatMap opB).length ≤ 30 := by
                have := flat_take_len (f := opB) (m := 10) (nm.take k) (fun z hz => form_ten _ (by have := HNm.out z (List.mem_of_mem_take hz); omega))
                rw [List.length_take] at this
                omega
              obtain ⟨aL', cL', e1, hrL, -, -⟩ := HOk.out.row
              injection e1 with e1 _ e2
              subst e1 e2
              obtain ⟨bL, oL, rfl, -, hcs⟩ := hrL.open (by omega)
              have hc := hcs k hkl
              rw [hgd] at hc
              have HA : Hid (∀ w', Below wk.heap.size wk w' → ∀ (g3 c3 : Nat), Row .u8 w' (some ⟨g3, 0, none⟩) (form m) → ∃ v w'', (Builtin.append_ #[30, 30] 30 #[vB, .slice (some ⟨g3, 0, none⟩) (form m).length c3]).run Tryd.prog w' = .ok v w'' ∧ LdM w w'' enc (.slice (some ⟨bC, oC, none⟩) C.length cc) (.slice ae E.length ce) v vE (.slice (some ⟨g, 0, none⟩) (ps.length + 1) cap) (bb ++ form n ++ (nm.take (k + 1)).flatMap opB) (posL entB (p0L E) E) (ps ++ [(bb.length : Int)]) ∧ IOwn w'' wb.heap.size (.slice (some ⟨bL, oL, none⟩) nm.length cL) nm) := hide_ (fun w' hb g3 c3 hr3 => by
                obtain ⟨v, w'', h1, h2, h3⟩ := (HLk.out.later hb).app (some ⟨g3, 0, none⟩) c3 (form m) hr3 (fun h => by cases h) (by simp only [List.length_append]; omega)
                refine ⟨v, w'', h1, ?_, h3 _ _ _ (HOk.out.later hb)⟩
                rw [HTk.out, HOm.out, ← List.append_assoc]
                exact h2)
              clear hcs hrL hx hgd hb3
              go_wp2_with (first
                | (go_at_call 65; refine (HPut.out m _ (by omega)).mono ?_; rintro e w3 ⟨g3, c3, rfl, HR3, hB3⟩; obtain ⟨vn3, w6, hrun6, hL6, hO6⟩ := HA.out w3 hB3 g3 c3 HR3.out; (have HR6 := hide_ hrun6); (have HL6 := hide_ hL6); (have HO6 := hide_ hO6); clear hrun6 hL6 hO6 hB3 HR3)
                | (at_builtin; have _t := HR6; refine wpList_append_run rfl (.tmp 101) (.tmp 108) 30 30 rfl rfl rfl HR6.out ?_; clear HR6))
              go_roundw
              case rel => exact ⟨vn3, k + 1, rfl, by omega, by go_num, HL6, HO6⟩
              case measure => simp [intOf]; omega
            · obtain rfl : k = nm.length := by omega
              have HL9 : Hid (LdM w wk enc (.slice (some ⟨bC, oC, none⟩) C.length cc) (.slice ae E.length ce) vB vE (.slice (some ⟨g, 0, none⟩) (ps.length + 1) cap) (pr ++ (C.take (i + 1)).flatMap insB) (posL entB (p0L E) E) (posL insB (p1L C E) (C.take (i + 1)))) := hide_ (by
                have := HLk.out
                rw [List.take_length, List.append_assoc, ← HInB.out, ← HBb.out, List.append_assoc, ← HT.out, HBb.out, HBl.out, ← HPs.out] at this
                exact this)
              go_wp2_with fail
              go_roundw
              case rel => exact ⟨vB, _, i + 1, rfl, rfl, by omega, by go_num, HL9⟩
              case measure => simp [intOf]; omega
        · obtain rfl : i = C.length := by omega
          have HLe := HLi.out
          rw [List.take_length, ← HPr.out] at HLe
          have HB9 : Hid (BOwn wr1 w.heap.size vB (encP enc C E)) := hide_ (by
            have := HLe.B
            unfold encP
            unfold preL at this
            exact this)
          have HE9 := hide_ HLe.E
          have HC9 := hide_ HLe.C
          have HL9 := hide_ HLe.bl
          clear HLe HLi
          go_wp2
          go_ret3
          exact ⟨vB, vE, vC, rfl, HB9, HE9, HC9, HL9.out⟩
end Go.Proofs.YteadmiikenpjeaaDoor
/- Code: the document's word, Encode, Print. -/
namespace Go.Proofs.YteadmiikenpjeaaDoor
open Go.RowKit
set_option linter.unusedVariables false

theorem word_any (B : Nat) (n : Int) (w : World) (hn : -1 ≤ n ∧ n ≤ 16777216) (HT : Hid (TabB B w)) : Calls Tryd.prog 45 #[.int .i64 n] w fun e w' => e = .returned (.string ⟨(opT n).toArray⟩) ∧ Below w.heap.size w w' := by
  by_cases h1 : n = -1
  · subst h1
    go_enter Tryd.func45, Tryd.ntmps45
    go_wp2
    go_ret
    exact ⟨rfl, Below.refl _ _⟩
  · have hb : (n == -1) = false := by simpa using h1
    have e1 : opT n = Lib.itoa n := by unfold opT; rw [if_neg h1]
    have HC := Tryd.strconv_Itoa n (by omega) (by omega) w HT.out.here
    rw [e1]
    generalize (⟨(Lib.itoa n).toArray⟩ : ByteArray) = s at *
    have HCo := hide_ HC
    clear HC
    go_enter Tryd.func45, Tryd.ntmps45
    go_wp2_with (go_at_call 60; refine HCo.out.mono ?_; rintro e w1 ⟨rfl, k, os, rfl⟩)
    go_ret
    exact ⟨rfl, Lib.below_grow w.heap.size w (Nat.le_refl _) k os⟩
theorem IOwn.rowZ {w : World} {l : List Int} {B n c : Nat} {a : Option Addr} (h : IOwn w B (.slice a n c) l) : Row .i64 w a l := by
  obtain ⟨a', c', e, hr, -, -⟩ := h.row
  injection e with e _ _
  subst e
  exact hr
theorem Chk.okI {enc : Bool} {C : List In} {E : List Int} (h : Chk enc C E) {x : In} (hx : x ∈ C) : OkI enc x := by
  obtain ⟨i, hi⟩ := List.mem_iff_getElem?.1 hx
  have hil := (List.getElem?_eq_some_iff.1 hi).1
  have hf := h.code i hil
  unfold frm at hf
  rw [hi] at hf
  simp only [Bool.and_eq_true] at hf
  refine ⟨(frmX_parts hf.1).1, fun n hn => ?_⟩
  have := nmj_in (h.inB hi) (kin x.op) 3 (Nat.le_refl _) n hn
  omega
/-! ### Encode -/
def EnTo (enc : Bool) (C : List In) (E : List Int) (w : World) (e : Ending) (w' : World) : Prop := ∃ v, e = .returned (.tuple #[v, .int .i64 (chk enc C E).1, .int .i64 (chk enc C E).2]) ∧ Hid (BOwn w' w.heap.size v (encA enc C E)) ∧ Hid (Below w.heap.size w w')
set_option maxRecDepth 100000 in
set_option maxHeartbeats 8000000 in
theorem rencode_any (enc : Bool) (ac ae : Option Addr) (cc ce : Nat) (C : List In) (E : List Int) (w : World) (hCl : C.length ≤ 140737488355328) (hel : E.length ≤ 140737488355328) (hr : Hid (IRow w ac C)) (he : Hid (Row .i64 w ae E)) :
    Calls Tryd.prog 16 #[.agg #[.bool enc, .slice ac C.length cc, .slice ae E.length ce]] w fun e w' => EnTo enc C E w e w' := by
  obtain ⟨w1, hw1⟩ : ∃ wx, wx = w.alloc (.cells #[.bool enc, .slice ac C.length cc, .slice ae E.length ce] 25) := ⟨_, rfl⟩
  have b1 : Below w.heap.size w w1 := by rw [hw1]; exact below1 _ _
  have k1 : Blk w1 w.heap.size 25 [.bool enc, .slice ac C.length cc, .slice ae E.length ce] := by rw [hw1]; exact Blk.newA w _ _
  have K1 := hide_ k1
  have HB1 := hide_ b1
  have i0 := k1.cell 0; have i1 := k1.cell 1; have i2 := k1.cell 2
  simp at i0 i1 i2
  have HC := hide_ (rcheck_any enc ac ae cc ce C E w1 hCl hel (hide_ (hr.out.later b1)) (hide_ (he.out.later b1)))
  have HEA : Hid (chk enc C E = (0, 0) → encA enc C E = encP enc C E) := hide_ (fun h => by unfold encA; rw [if_pos h])
  have HEN : Hid (chk enc C E ≠ (0, 0) → encA enc C E = []) := hide_ (fun h => by unfold encA; rw [if_neg h])
  have HZ : Hid ((chk enc C E).1 = 0 → chk enc C E = (0, 0)) := hide_ (fun h => by
    unfold chk at h ⊢
    split
    · rename_i hc; rw [if_pos hc] at h; simp at h
    · rename_i hc
      rw [if_neg hc] at h
      split
      · rename_i i hi; rw [hi] at h; simp at h
      · rename_i hi
        rw [hi] at h
        simp only at h
        split
        · rename_i j hj; rw [hj] at h; simp at h
        · rfl)
  clear b1 k1
  unfold EnTo
  obtain ⟨A, hA⟩ : ∃ A, chk enc C E = A := ⟨_, rfl⟩
  rw [hA] at HC HEA HEN HZ ⊢
  have HA := hide_ hA
  obtain ⟨e1, e2⟩ := A
  obtain ⟨L, hL⟩ : ∃ L, encA enc C E = L := ⟨_, rfl⟩
  rw [hL] at HEA HEN ⊢
  clear hA hL
  simp only
  go_enter Tryd.func16, Tryd.ntmps16
  go_upto_region 1 with fail
  rw [← hw1]
  clear hw1
  go_wp2_with fail
  refine HC.out.mono ?_
  rintro e w2 ⟨rfl, hB2⟩
  obtain ⟨w3, hw3⟩ : ∃ wx, wx = w2.alloc (.cells #[.int .i64 e1, .int .i64 e2] 33) := ⟨_, rfl⟩
  have b3 : Below w2.heap.size w2 w3 := by rw [hw3]; exact below1 _ _
  have k3 : Blk w3 w2.heap.size 33 [.int .i64 e1, .int .i64 e2] := by rw [hw3]; exact Blk.newA w2 _ _
  have HB3 := hide_ (below_to HB1.out (below_to hB2 b3))
  have K13 := hide_ ((K1.out.later hB2).later b3)
  have j0 := k3.cell 0; have j1 := k3.cell 1
  simp at j0 j1
  clear hB2 b3 k3 i0 i1 i2 HC
  have i0 := K13.out.cell 0; have i1 := K13.out.cell 1; have i2 := K13.out.cell 2
  simp at i0 i1 i2
  go_upto_region 2 with fail
  rw [← hw3]
  clear hw3
  by_cases h0 : e1 = 0
  · have hz := HZ.out h0
    injection hz with hz1 hz2
    subst hz1 hz2
    have hck := chk_ok.1 HA.out
    have HLa := hide_ (laid_any enc ac ae cc ce C E w3 hck.nc hck.ne (hide_ (fun n hn => by
      obtain ⟨i, hi⟩ := List.mem_iff_getElem?.1 hn
      have hil := (List.getElem?_eq_some_iff.1 hi).1
      have h1 := hck.ent i hil
      rw [List.getD, hi, Option.getD_some] at h1
      have := hck.nc
      omega)) (hide_ (fun x hx => hck.okI hx)) (hide_ (hr.out.later HB3.out)) (hide_ (he.out.later HB3.out)))
    have HEA := HEA.out rfl
    subst HEA
    clear hck HEN HZ
    go_wp2_with fail
    refine HLa.out.mono ?_
    rintro e w4 ⟨vB, vE, vC, rfl, HOB, -, -, hB4⟩
    have HBf := hide_ (below_to HB3.out hB4)
    have HOf := hide_ (own_base HOB.out HB3.out.size)
    clear hB4
    go_wp2
    go_ret3
    exact ⟨vB, rfl, HOf, HBf⟩
  · have h0' : (e1 != 0) = true := by simpa using h0
    have HN := hide_ (HEN.out (fun h => h0 (by injection h)))
    clear h0 HEA HEN HZ
    go_wp2_with fail
    go_region
    have HBf := hide_ HB3.out.drew
    go_wp2
    go_ret3
    exact ⟨.slice none 0 0, rfl, hide_ (by rw [HN.out]; exact BOwn.nil _ _), HBf⟩
/-! ### Print -/
structure PrM (w w' : World) (enc : Bool) (pc pe vB : Value) (l : List UInt8) : Prop where
  p : Blk w' w.heap.size 25 [.bool enc, pc, pe]
  B : w'.ownsRow w.heap.size 5 1 vB l.length (Lib.byteCells l)
  bl : Below w.heap.size w w'
section
variable {w w' w'' : World} {enc : Bool} {pc pe vB : Value} {l : List UInt8}
theorem PrM.later (h : PrM w w' enc pc pe vB l) (hB : Below w'.heap.size w' w'') : PrM w w'' enc pc pe vB l :=
  ⟨h.p.later hB, ownS_upd h.B (Upd.of_below (S := fun _ => False) hB) (fun _ _ h => h), below_to h.bl hB⟩
theorem PrM.nob (h : PrM w w' enc pc pe vB l) {g : Nat} {t : TypeId} {ys : List Value} (hb : Blk w' g t ys) (ht : t ≠ 5) : ¬ vB.ownBlock = some g := fun e => by
  obtain ⟨zs, hz⟩ := ownS_type h.B e
  exact ht (blk_type hb hz)
theorem PrM.sl (h : PrM w w' enc pc pe vB l) : ∃ a c, vB = .slice a l.length c := Bt.form h.B
theorem PrM.upd (h : PrM w w' enc pc pe vB l) {v' : Value} {l' : List UInt8} (hu : Upd (fun k => vB.ownBlock = some k) w' w'') (ho : w''.ownsRow w.heap.size 5 1 v' l'.length (Lib.byteCells l')) : PrM w w'' enc pc pe v' l' :=
  ⟨h.p.upd hu (h.nob h.p (by decide)), ho, h.bl.trans (hu.below _ h.bl.size (fun k hk => (World.ownsRow.lt h.B k hk).1))⟩
theorem PrM.say (h : PrM w w' enc pc pe vB l) {s : ByteArray} (hs : s.size ≤ 1000) (hl : l.length ≤ 1000000000) :
    ∃ v' w'', (Builtin.append_ #[30, 9] 30 #[vB, .string s]).run Tryd.prog w' = .ok v' w'' ∧ PrM w w'' enc pc pe v' (l ++ s.data.toList) ∧ Upd (fun k => vB.ownBlock = some k) w' w'' := by
  obtain ⟨i0, hi, hz0, hz1, hz2⟩ := info_parts E23.info
  obtain ⟨v', w2, h1, h2, h3, -⟩ := Lib.run_append_own_string (P := Tryd.prog) w' w.heap.size 30 9 30 5 i0 Tryd.underlying30 Tryd.underlying9 hi hz0 hz1 hz2 vB l.length _ h.B s (by unfold maxLen; omega) (by omega) h.bl.size
  have hu : Upd (fun k => vB.ownBlock = some k) w' w2 := (Upd.refl _ w').grown h3 (fun k hk => .inl hk)
  exact ⟨v', w2, h1, h.upd hu (by rw [Lib.byteCells_append, List.length_append, ← Lib.size_eq]; exact h2), hu⟩
theorem PrM.nl (h : PrM w w' enc pc pe vB l) (hl : l.length ≤ 1000000000) :
    ∃ v' w'', (Builtin.append_ #[30, 30] 30 #[vB, .slice (some ⟨w'.heap.size, 0, none⟩) 1 1]).run Tryd.prog (w'.alloc (.cells #[.int .u8 10] 5)) = .ok v' w'' ∧ PrM w w'' enc pc pe v' (l ++ [10]) := by
  have hb := h.B
  rw [cells_ints] at hb
  obtain ⟨g, cap, w2, h1, h2, h3, -⟩ := run_push E23 w' 30 w.heap.size vB l.length (l.map fun b => (b.toNat : Int)) hb 10 (by unfold maxLen; omega) (by omega) h.bl.size
  refine ⟨_, w2, h1, h.upd h3 ?_⟩
  rw [cells_ints, List.map_append, List.length_append]
  exact h2
end
set_option maxRecDepth 100000 in
set_option maxHeartbeats 16000000 in
theorem rprint_any (enc : Bool) (ac ae : Option Addr) (cc ce : Nat) (C : List In) (E : List Int) (w : World) (hCl : C.length ≤ 140737488355328) (hel : E.length ≤ 140737488355328) (hr : Hid (IRow w ac C)) (he : Hid (Row .i64 w ae E)) (HT : Hid (TabB w.heap.size w)) :
    Calls Tryd.prog 17 #[.agg #[.bool enc, .slice ac C.length cc, .slice ae E.length ce]] w fun e w' => e = .returned (.tuple #[.string ⟨(prnA enc C E).toArray⟩, .int .i64 (chk enc C E).1, .int .i64 (chk enc C E).2]) ∧ Below w.heap.size w w' := by
  obtain ⟨w1, hw1⟩ : ∃ wx, wx = w.alloc (.cells #[.bool enc, .slice ac C.length cc, .slice ae E.length ce] 25) := ⟨_, rfl⟩
  have b1 : Below w.heap.size w w1 := by rw [hw1]; exact below1 _ _
  have k1 : Blk w1 w.heap.size 25 [.bool enc, .slice ac C.length cc, .slice ae E.length ce] := by rw [hw1]; exact Blk.newA w _ _
  have K1 := hide_ k1
  have HB1 := hide_ b1
  have i0 := k1.cell 0; have i1 := k1.cell 1; have i2 := k1.cell 2
  simp at i0 i1 i2
  have HC := hide_ (rcheck_any enc ac ae cc ce C E w1 hCl hel (hide_ (hr.out.later b1)) (hide_ (he.out.later b1)))
  have HZ : Hid ((chk enc C E).1 = 0 → chk enc C E = (0, 0)) := hide_ (fun h => by
    unfold chk at h ⊢
    split
    · rename_i hc; rw [if_pos hc] at h; simp at h
    · rename_i hc
      rw [if_neg hc] at h
      split
      · rename_i i hi; rw [hi] at h; simp at h
      · rename_i hi
        rw [hi] at h
        simp only at h
        split
        · rename_i j hj; rw [hj] at h; simp at h
        · rfl)
  have HPA : Hid (chk enc C E = (0, 0) → prnA enc C E = prnP enc C E) := hide_ (fun h => by unfold prnA; rw [if_pos h])
  have HPN : Hid (chk enc C E ≠ (0, 0) → prnA enc C E = []) := hide_ (fun h => by unfold prnA; rw [if_neg h])
  clear b1 k1
  obtain ⟨A, hA⟩ : ∃ A, chk enc C E = A := ⟨_, rfl⟩
  rw [hA] at HC HPA HPN HZ ⊢
  have HA := hide_ hA
  obtain ⟨e1, e2⟩ := A
  obtain ⟨L, hL⟩ : ∃ L, prnA enc C E = L := ⟨_, rfl⟩
  rw [hL] at HPA HPN ⊢
  clear hA hL
  simp only
  go_enter Tryd.func17, Tryd.ntmps17
  go_upto_region 1 with fail
  rw [← hw1]
  clear hw1
  go_wp2_with fail
  refine HC.out.mono ?_
  rintro e w2 ⟨rfl, hB2⟩
  obtain ⟨w3, hw3⟩ : ∃ wx, wx = w2.alloc (.cells #[.int .i64 e1, .int .i64 e2] 33) := ⟨_, rfl⟩
  have b3 : Below w2.heap.size w2 w3 := by rw [hw3]; exact below1 _ _
  have k3 : Blk w3 w2.heap.size 33 [.int .i64 e1, .int .i64 e2] := by rw [hw3]; exact Blk.newA w2 _ _
  have HB3 := hide_ (below_to HB1.out (below_to hB2 b3))
  have HP3 : Hid (PrM w w3 enc (.slice ac C.length cc) (.slice ae E.length ce) (.slice none 0 0) []) := hide_ ⟨(K1.out.later hB2).later b3, World.ownsRow_nil _ _ _ _, HB3.out⟩
  have j0 := k3.cell 0; have j1 := k3.cell 1
  simp at j0 j1
  clear hB2 b3 k3 i0 i1 i2 HC K1
  go_upto_region 2 with fail
  rw [← hw3]
  clear hw3
  by_cases h0 : e1 = 0
  · have hz := HZ.out h0
    injection hz with hz1 hz2
    subst hz1 hz2
    have HCk := hide_ (chk_ok.1 HA.out)
    have HPA := HPA.out rfl
    subst HPA
    have hnc := HCk.out.nc
    have hne := HCk.out.ne
    clear HPN HZ HA
    have p0 := HP3.out.p.cell 0
    simp at p0
    have HWd : Hid (∀ (n : Int) (w' : World), (-1 ≤ n ∧ n ≤ 16777216) → ∀ {wz : World}, Below wz.heap.size wz w' → Below w.heap.size w wz → Calls Tryd.prog 45 #[.int .i64 n] w' fun e w'' => e = .returned (.string ⟨(opT n).toArray⟩) ∧ Below w'.heap.size w' w'') := hide_ (fun n w' hn wz hb1 hb2 => word_any w.heap.size n w' hn (hide_ (HT.out.on (below_to hb2 hb1))))
    go_upto_if 23 with fail
    go_cut [6] from 24 to 27 (fun x6 wc => ∃ (vB : Value) (wf : World), wf = wc ∧ vB = x6 ∧ Hid (PrM w wf enc (.slice ac C.length cc) (.slice ae E.length ce) vB (mchT enc ++ [10] ++ entsT E 0)))
    case first =>
      cases enc with
      | true =>
        obtain ⟨v5, w5, hr5, hp5, -⟩ := HP3.out.say (s := ⟨#[101, 110, 99, 111, 100, 101, 114, 10]⟩) (by decide) (by simp)
        have HR5 := hide_ hr5
        have HP5 : Hid (PrM w w5 true (.slice ac C.length cc) (.slice ae E.length ce) v5 (mchT true ++ [10] ++ entsT E 0)) := hide_ (by simpa [mchT, entsT] using hp5)
        clear hr5 hp5
        go_wp2_with (first | (at_builtin; refine wpList_append_run rfl (.tmp 24) (.const (.string ⟨#[101, 110, 99, 111, 100, 101, 114, 10]⟩)) 30 9 rfl rfl rfl HR5.out ?_; clear HR5) | fail)
        go_meet
        case rel => exact ⟨v5, w5, rfl, rfl, HP5⟩
      | false =>
        obtain ⟨v5, w5, hr5, hp5, -⟩ := HP3.out.say (s := ⟨#[100, 101, 99, 111, 100, 101, 114, 10]⟩) (by decide) (by simp)
        have HR5 := hide_ hr5
        have HP5 : Hid (PrM w w5 false (.slice ac C.length cc) (.slice ae E.length ce) v5 (mchT false ++ [10] ++ entsT E 0)) := hide_ (by simpa [mchT, entsT] using hp5)
        clear hr5 hp5
        go_wp2_with (first | (at_builtin; refine wpList_append_run rfl (.tmp 26) (.const (.string ⟨#[100, 101, 99, 111, 100, 101, 114, 10]⟩)) 30 9 rfl rfl rfl HR5.out ?_; clear HR5) | fail)
        go_meet
        case rel => exact ⟨v5, w5, rfl, rfl, HP5⟩
    case rest =>
    obtain ⟨vB, w4, rfl, rfl, HP4⟩ := hcut
    clear HP3 p0 j0 j1
    have HEl := hide_ (fun j (hj : j ≤ E.length) => entsT_len E (fun i hi => by have := HCk.out.ent i hi; omega) hne j hj)
    have HM7 : Hid ((mchT enc).length ≤ 7) := hide_ (by cases enc <;> decide)
    go_wp2_with fail
    go_loopw [6, 7] (fun x6 x7 wr => ∃ (vB : Value) (i : Nat), vB = x6 ∧ i ≤ E.length ∧ x7 = .int .i64 (i : Int) ∧ Hid (PrM w wr enc (.slice ac C.length cc) (.slice ae E.length ce) vB (mchT enc ++ [10] ++ entsT E i))) (fun _ x7 _ => E.length - (intOf x7).toNat)
    case atStart => exact ⟨vB, 0, rfl, Nat.zero_le _, rfl, HP4⟩
    case round =>
      obtain ⟨vB, i, rfl, hi, rfl, HPi⟩ := hrel
      generalize wr = wq at *
      clear HP4
      have p2 := HPi.out.p.cell 2; have p1 := HPi.out.p.cell 1
      simp at p1 p2
      by_cases hlt : i < E.length
      · have hlt' : (i : Int) < E.length := by omega
        have hen := HCk.out.ent i hlt
        obtain ⟨bE, oE, rfl, hbE, hcE⟩ := he.out.open (by omega)
        have HcE : Hid (∀ w', Below w.heap.size w w' → w'.cell? ⟨bE, oE + i, none⟩ = some (.int .i64 (E.getD i 0))) := hide_ (fun w' hb => (hb.cell (p := ⟨bE, oE + i, none⟩) hbE).trans (hcE i hlt))
        have HDt0 : Hid (entsT E (i + 1) = entsT E i ++ entT i (E.getD i 0)) := hide_ rfl
        generalize E.getD i 0 = en at *
        obtain ⟨l, hl⟩ : ∃ l, mchT enc ++ [10] ++ entsT E i = l := ⟨_, rfl⟩
        have HLl : Hid (l.length ≤ 100000000) := hide_ (by rw [← hl]; have := HEl.out i hi; have := HM7.out; simp only [List.length_append, List.length_singleton]; omega)
        obtain ⟨sI, hsI⟩ : ∃ s : ByteArray, ⟨(opT (i : Int)).toArray⟩ = s := ⟨_, rfl⟩
        obtain ⟨sE, hsE⟩ : ∃ s : ByteArray, ⟨(opT en).toArray⟩ = s := ⟨_, rfl⟩
        have HSi := hide_ hsI
        have HSe := hide_ hsE
        have hzi : sI.size ≤ 30 := by rw [← hsI, Lib.size_eq]; exact itoa_len (i : Int) (by omega)
        have hze : sE.size ≤ 30 := by rw [← hsE, Lib.size_eq]; exact itoa_len en (by omega)
        obtain ⟨s1, hs1⟩ : ∃ s, (⟨#[116, 121, 112, 101, 32]⟩ ++ sI : ByteArray) = s := ⟨_, rfl⟩
        obtain ⟨s2, hs2⟩ : ∃ s, (s1 ++ ⟨#[32]⟩ : ByteArray) = s := ⟨_, rfl⟩
        obtain ⟨s3, hs3⟩ : ∃ s, (s2 ++ sE : ByteArray) = s := ⟨_, rfl⟩
        obtain ⟨s4, hs4⟩ : ∃ s, (s3 ++ ⟨#[10]⟩ : ByteArray) = s := ⟨_, rfl⟩
        have hd1 : s1.data.toList = [116, 121, 112, 101, 32] ++ sI.data.toList := by rw [← hs1, cat_data]
        have hd2 : s2.data.toList = s1.data.toList ++ [32] := by rw [← hs2, cat_data]
        have hd3 : s3.data.toList = s2.data.toList ++ sE.data.toList := by rw [← hs3, cat_data]
        have hd4 : s4.data.toList = s3.data.toList ++ [10] := by rw [← hs4, cat_data]
        have hz1 : s1.size = 5 + sI.size := by rw [Lib.size_eq, hd1, List.length_append, ← Lib.size_eq]; rfl
        have hz2 : s2.size = s1.size + 1 := by rw [Lib.size_eq, hd2, List.length_append, ← Lib.size_eq]; rfl
        have hz3 : s3.size = s2.size + sE.size := by rw [Lib.size_eq, hd3, List.length_append, ← Lib.size_eq, ← Lib.size_eq]
        have hz4 : s4.size = s3.size + 1 := by rw [Lib.size_eq, hd4, List.length_append, ← Lib.size_eq]; rfl
        have HSz : Hid (s4.size ≤ 1000) := hide_ (by omega)
        have z1 : ¬ 9223372036854775807 < 5 + sI.size := by omega
        have z2 : ¬ 9223372036854775807 < s1.size + 1 := by omega
        have z3 : ¬ 9223372036854775807 < s2.size + sE.size := by omega
        have z4 : ¬ 9223372036854775807 < s3.size + 1 := by omega
        have HDt : Hid (l ++ s4.data.toList = mchT enc ++ [10] ++ entsT E (i + 1)) := hide_ (by
          have e1 : opT (i : Int) = Lib.itoa (i : Int) := by unfold opT; rw [if_neg (by omega)]
          have e2 : opT en = Lib.itoa en := by unfold opT; rw [if_neg (by omega)]
          rw [HDt0.out, ← hl, hd4, hd3, hd2, hd1, ← hsI, ← hsE, e1, e2]
          unfold entT
          simp)
        clear hd1 hd2 hd3 hd4 hz1 hz2 hz3 hz4
        rw [hl] at HPi
        clear hl hsI hsE HDt0 hcE
        obtain ⟨aB, cB, hvB⟩ := HPi.out.sl
        subst hvB
        have HSS : Hid (∀ w', Below wq.heap.size wq w' → (fun w' => w'.cell? ⟨w.heap.size, 2, none⟩ = some (.slice (some ⟨bE, oE, none⟩) E.length ce) ∧ w'.cell? ⟨bE, oE + i, none⟩ = some (.int .i64 en)) w') := hide_ (fun w' hb => ⟨by have := (HPi.out.later hb).p.cell 2; simpa using this, HcE.out w' (below_to HPi.out.bl hb)⟩)
        have HS5 : Hid (∀ (w' : World) (v : Value) (l' : List UInt8), PrM w w' enc (.slice ac C.length cc) (.slice (some ⟨bE, oE, none⟩) E.length ce) v l' → (fun w' => w'.cell? ⟨w.heap.size, 2, none⟩ = some (.slice (some ⟨bE, oE, none⟩) E.length ce) ∧ w'.cell? ⟨bE, oE + i, none⟩ = some (.int .i64 en)) w') := hide_ (fun w' v l' h => ⟨by have := h.p.cell 2; simpa using this, HcE.out w' h.bl⟩)
        have HWq : Hid (∀ (n : Int) (w' : World), (-1 ≤ n ∧ n ≤ 16777216) → Below wq.heap.size wq w' → Calls Tryd.prog 45 #[.int .i64 n] w' fun e w'' => e = .returned (.string ⟨(opT n).toArray⟩) ∧ Below w'.heap.size w' w'') := hide_ (fun n w' hn hb => HWd.out n w' hn hb HPi.out.bl)
        go_upto_region 11 with fail
        clear p1 p2
        refine wp_region_last 14 (fun w' => w'.cell? ⟨w.heap.size, 2, none⟩ = some (.slice (some ⟨bE, oE, none⟩) E.length ce) ∧ w'.cell? ⟨bE, oE + i, none⟩ = some (.int .i64 en)) (by kernel_rfl) (HSS.out _ (Below.refl wq.heap.size wq).drew) (fun hHeld => ?_)
        refine wpAnyF_take [14] (by kernel_rfl) (i := 0) (v := ?vp1) rfl (by kernel_rfl) (by kernel_rfl) (by kernel_rfl) (fun _ _ _ h => h) (Or.inl ⟨by kernel_rfl, ?hyp1⟩) hHeld ?restp1
        case hyp1 => intro w' hSw; (try dsimp only at hSw); go_simp; try with_reducible rfl
        simp only [Act.put]
        try dsimp only
        refine wpAnyF_take [14] (by kernel_rfl) (i := 1) (v := ?vp2) rfl (by kernel_rfl) (by kernel_rfl) (by kernel_rfl) (fun _ _ _ h => h) (Or.inl ⟨by kernel_rfl, ?hyp2⟩) hHeld ?restp2
        case hyp2 => intro w' hSw; (try dsimp only at hSw); go_simp; try with_reducible rfl
        simp only [Act.put]
        try dsimp only
        refine wpAnyF_take [14] (by kernel_rfl) (i := 5) (v := ?vp3) rfl (by kernel_rfl) (by kernel_rfl) (by kernel_rfl) (fun _ _ _ h => h) (Or.inl ⟨by kernel_rfl, ?hyp3⟩) hHeld ?restp3
        case hyp3 => intro w' hSw; (try dsimp only at hSw); go_simp; try with_reducible rfl
        simp only [Act.put]
        try dsimp only
        refine wpAnyF_take [14] (by kernel_rfl) (i := 6) (v := ?vp4) rfl (by kernel_rfl) (by kernel_rfl) (by kernel_rfl) (fun _ _ _ h => h) (Or.inl ⟨by kernel_rfl, ?hyp4⟩) hHeld ?restp4
        case hyp4 => intro w' hSw; (try dsimp only at hSw); go_simp; try with_reducible rfl
        simp only [Act.put]
        try dsimp only
        refine wpAnyF_take [14] (by kernel_rfl) (i := 7) (v := ?vp5) rfl (by kernel_rfl) (by kernel_rfl) (by kernel_rfl) (fun _ _ _ h => h) (Or.inl ⟨by kernel_rfl, ?hyp5⟩) hHeld ?restp5
        case hyp5 => intro w' hSw; (try dsimp only at hSw); go_simp; try with_reducible rfl
        simp only [Act.put]
        try dsimp only
        refine wpAnyF_take [14] (by kernel_rfl) (i := 8) (v := ?vp6) rfl (by kernel_rfl) (by kernel_rfl) (by kernel_rfl) (fun _ _ _ h => h) (Or.inl ⟨by kernel_rfl, ?hyp6⟩) hHeld ?restp6
        case hyp6 => intro w' hSw; (try dsimp only at hSw); go_simp; try with_reducible rfl
        simp only [Act.put]
        try dsimp only
        refine wpAnyF_take [14] (by kernel_rfl) (i := 9) (v := ?vp7) rfl (by kernel_rfl) (by kernel_rfl) (by kernel_rfl) (fun _ _ _ h => h) (Or.inl ⟨by kernel_rfl, ?hyp7⟩) hHeld ?restp7
        case hyp7 => intro w' hSw; (try dsimp only at hSw); go_simp; try with_reducible rfl
        simp only [Act.put]
        try dsimp only
        refine wpAnyF_ready (rs := [2]) (by kernel_rfl) (by simp) ?_
        refine AllReadyF.cons rfl (fun K hK => ?_) AllReadyF.nil
        go_simp
        refine (HWq.out (i : Int) _ (by omega) ((Below.refl wq.heap.size wq).drew)).mono ?_
        rintro e wO ⟨rfl, hbO⟩
        dsimp only
        have HX := hide_ (below_to (Below.refl wq.heap.size wq).drew hbO)
        clear hbO
        rw [HSi.out]
        refine hK.out _ _ (HSS.out _ HX.out) (fun hHeld => ?_)
        clear hK K
        refine wpAnyF_take [14] (by kernel_rfl) (i := 3) (v := ?vp8) rfl (by kernel_rfl) (by kernel_rfl) (by kernel_rfl) (fun _ _ _ h => h) (Or.inl ⟨by kernel_rfl, ?hyp8⟩) hHeld ?restp8
        case hyp8 => intro w' hSw; (try dsimp only at hSw); go_simp; try with_reducible rfl
        simp only [Act.put]
        try dsimp only
        refine wpAnyF_take [14] (by kernel_rfl) (i := 4) (v := ?vp9) rfl (by kernel_rfl) (by kernel_rfl) (by kernel_rfl) (fun _ _ _ h => h) (Or.inl ⟨by kernel_rfl, ?hyp9⟩) hHeld ?restp9
        case hyp9 => intro w' hSw; (try dsimp only at hSw); go_simp; try with_reducible rfl
        simp only [Act.put]
        try dsimp only
        refine wpAnyF_ready (rs := [10]) (by kernel_rfl) (by simp) ?_
        refine AllReadyF.cons rfl (fun K hK => ?_) AllReadyF.nil
        go_simp
        refine (HWq.out en _ (by omega) HX.out).mono ?_
        rintro e wP ⟨rfl, hbO⟩
        dsimp only
        have HX := hide_ (below_to HX.out hbO)
        clear hbO
        rw [HSe.out]
        refine hK.out _ _ (HSS.out _ HX.out) (fun hHeld => ?_)
        clear hK K
        refine wpAnyF_take [14] (by kernel_rfl) (i := 11) (v := ?vp10) rfl (by kernel_rfl) (by kernel_rfl) (by kernel_rfl) (fun _ _ _ h => h) (Or.inl ⟨by kernel_rfl, ?hyp10⟩) hHeld ?restp10
        case hyp10 => intro w' hSw; (try dsimp only at hSw); go_simp; try with_reducible rfl
        simp only [Act.put]
        try dsimp only
        refine wpAnyF_take [14] (by kernel_rfl) (i := 12) (v := ?vp11) rfl (by kernel_rfl) (by kernel_rfl) (by kernel_rfl) (fun _ _ _ h => h) (Or.inl ⟨by kernel_rfl, ?hyp11⟩) hHeld ?restp11
        case hyp11 => intro w' hSw; (try dsimp only at hSw); go_simp; try with_reducible rfl
        simp only [Act.put]
        try dsimp only
        refine wpAnyF_ready (rs := [13]) (by kernel_rfl) (by simp) ?_
        refine AllReadyF.cons rfl (fun K hK => ?_) AllReadyF.nil
        obtain ⟨v5, w5, hr5, hp5, -⟩ := (HPi.out.later HX.out).say (s := s4) HSz.out (by have := HLl.out; omega)
        have HR5 := hide_ hr5
        have HP5 := hide_ hp5
        clear hr5 hp5
        refine step_append_run rfl (.tmp 35) (.tmp 47) 30 9 rfl (v := .slice aB l.length cB) (u := .string s4) (by kernel_rfl) (by kernel_rfl) HR5.out ?_
        refine hK.out _ _ (HS5.out _ _ _ HP5.out) (fun hHeld => ?_)
        clear hK K
        refine wpAnyF_ready (rs := [14]) (by kernel_rfl) (by simp) ?_
        refine AllReadyF.last rfl (fun K hK => ?_)
        go_simp
        refine hK.out _ _ ?_
        clear hK K
        refine wpAnyF_done (by kernel_rfl) ?_ _
        have HPn : Hid (PrM w w5 enc (.slice ac C.length cc) (.slice (some ⟨bE, oE, none⟩) E.length ce) v5 (mchT enc ++ [10] ++ entsT E (i + 1))) := hide_ (by have := HP5.out; rw [HDt.out] at this; exact this)
        clear HP5 HR5 HX hHeld hs1 hs2 hs3 hs4 z1 z2 z3 z4
        go_wp2_with fail
        go_roundw
        case rel => exact ⟨v5, i + 1, rfl, by omega, by go_num, HPn⟩
        case measure => simp [intOf]; omega
      · obtain rfl : i = E.length := by omega
        obtain ⟨pr, hpr⟩ : ∃ pr, mchT enc ++ [10] ++ entsT E E.length = pr := ⟨_, rfl⟩
        have HLp : Hid (pr.length ≤ 70000000) := hide_ (by rw [← hpr]; have := HEl.out E.length (Nat.le_refl _); have := HM7.out; simp only [List.length_append, List.length_singleton]; omega)
        have HPr := hide_ hpr
        rw [hpr] at HPi
        have HP6 : Hid (PrM w wq enc (.slice ac C.length cc) (.slice ae E.length ce) vB (pr ++ codeT C 0)) := hide_ (by have := HPi.out; simpa [codeT] using this)
        have HCl := hide_ (fun j (hj : j ≤ C.length) => codeT_len C (fun i x hx => HCk.out.inB hx) hnc j hj)
        clear hpr HEl HM7
        go_wp2_with fail
        go_loopw [6, 8] (fun x6 x8 wr => ∃ (vB : Value) (i : Nat), vB = x6 ∧ i ≤ C.length ∧ x8 = .int .i64 (i : Int) ∧ Hid (PrM w wr enc (.slice ac C.length cc) (.slice ae E.length ce) vB (pr ++ codeT C i))) (fun _ x8 _ => C.length - (intOf x8).toNat)
        case atStart => exact ⟨vB, 0, rfl, Nat.zero_le _, rfl, HP6⟩
        case round =>
        obtain ⟨vB, i, rfl, hi, rfl, HPi⟩ := hrel
        generalize wr = wa at *
        clear HP6 p1 p2
        have p1 := HPi.out.p.cell 1; have p0 := HPi.out.p.cell 0
        simp at p0 p1
        by_cases hlt : i < C.length
        · have hlt' : (i : Int) < C.length := by omega
          have hx : C[i]? = some (C[i]'hlt) := List.getElem?_eq_getElem hlt
          have hok := HCk.out.okI (List.getElem_mem hlt)
          have hib := HCk.out.inB hx
          have HXi := hide_ hx
          have HCs : Hid (codeT C (i + 1) = codeT C i ++ insT i (C[i]'hlt)) := hide_ (by rw [codeT, List.getD, hx, Option.getD_some])
          generalize C[i]'hlt = x at *
          obtain ⟨bC, oC, rfl, -, -⟩ := hr.out.open (by omega)
          have HRa := hide_ (hr.out.later HPi.out.bl)
          obtain ⟨l0, l1, l2, hl⟩ := three (ofI_kat hok.of (j := 0) (by omega)).1
          have hsl : ofL x.op enc = ⟨#[l0, l1, l2]⟩ := by unfold ofL; rw [if_pos hok.of, hl]
          obtain ⟨i0, i1, i2⟩ := ltr_iff hok.of hl
          have HOf : Hid (∀ w', Calls Tryd.prog 20 #[.int .i64 x.op, .bool enc] w' fun e w'' => e = .returned (.tuple #[.agg #[.string (ofN x.op enc), .string ⟨#[l0, l1, l2]⟩], .bool true]) ∧ Below w'.heap.size w' w'') := hide_ (fun w' => by have := of_any x.op enc w'; rw [hsl, hok.of] at this; exact this)
          have HOp := hide_ (fun w' => roperands_any x (ofN x.op enc) l0 l1 l2 (kin x.op) i0 i1 i2 w')
          have hnN : ofN x.op enc = ⟨(nmT x.op).toArray⟩ := by unfold ofN; rw [if_pos hok.of]
          obtain ⟨l, hll⟩ : ∃ l, pr ++ codeT C i = l := ⟨_, rfl⟩
          have HLl : Hid (l.length ≤ 300000000) := hide_ (by rw [← hll, List.length_append]; have := HCl.out i hi; have := HLp.out; omega)
          have HLe := hide_ hll
          rw [hll] at HPi
          obtain ⟨sI, hsI⟩ : ∃ s : ByteArray, ⟨(opT (i : Int)).toArray⟩ = s := ⟨_, rfl⟩
          have HSi := hide_ hsI
          have hzi : sI.size ≤ 30 := by rw [← hsI, Lib.size_eq]; exact itoa_len (i : Int) (by omega)
          have hzn : (ofN x.op enc).size ≤ 30 := by rw [hnN, Lib.size_eq]; exact Nat.le_trans (nmT_len x.op) (by omega)
          obtain ⟨s1, hs1⟩ : ∃ s, (sI ++ ⟨#[32]⟩ : ByteArray) = s := ⟨_, rfl⟩
          obtain ⟨s2, hs2⟩ : ∃ s, (s1 ++ ofN x.op enc : ByteArray) = s := ⟨_, rfl⟩
          have hd1 : s1.data.toList = sI.data.toList ++ [32] := by rw [← hs1, cat_data]
          have hd2 : s2.data.toList = s1.data.toList ++ (ofN x.op enc).data.toList := by rw [← hs2, cat_data]
          have hz1 : s1.size = sI.size + 1 := by rw [Lib.size_eq, hd1, List.length_append, ← Lib.size_eq]; rfl
          have hz2 : s2.size = s1.size + (ofN x.op enc).size := by rw [Lib.size_eq, hd2, List.length_append, ← Lib.size_eq, ← Lib.size_eq]
          have HSz : Hid (s2.size ≤ 1000) := hide_ (by omega)
          have z1 : ¬ 9223372036854775807 < sI.size + 1 := by omega
          have z2 : ¬ 9223372036854775807 < s1.size + (ofN x.op enc).size := by omega
          have HNm := hide_ (nmj_in hib (kin x.op) 3 (Nat.le_refl _))
          have hnml : (nmd x).length ≤ 3 := nmj_len x (kin x.op) 3
          have HFin : Hid (l ++ s2.data.toList ++ (nmd x).flatMap opS ++ [10] = pr ++ codeT C (i + 1)) := hide_ (by
            have e1 : opT (i : Int) = Lib.itoa (i : Int) := by unfold opT; rw [if_neg (by omega)]
            rw [HCs.out, ← hll, hd2, hd1, ← hsI, e1, hnN]
            unfold insT
            simp)
          obtain ⟨aB, cB, hvB⟩ := HPi.out.sl
          subst hvB
          have HSS : Hid (∀ w', Below wa.heap.size wa w' → (fun w' => w'.cell? ⟨w.heap.size, 0, none⟩ = some (.bool enc) ∧ w'.cell? ⟨w.heap.size, 1, none⟩ = some (.slice (some ⟨bC, oC, none⟩) C.length cc) ∧ w'.cell? ⟨bC, oC + i * 4, none⟩ = some (.int .i64 x.op)) w') := hide_ (fun w' hb => ⟨(HPi.out.later hb).p.cell 0, (HPi.out.later hb).p.cell 1, (IRow.at (HRa.out.later hb) HXi.out).1⟩)
          clear hl hsl i0 i1 i2 hll hsI hnN HCs hx hd1 hd2 hz1 hz2
          go_upto_region 15 with fail
          clear p0 p1
          go_cut [9, 10] from 56 to 67 (fun x9 x10 wc => ∃ (gf : Nat) (wf : World), wf = wc ∧ x9 = .pointer (some ⟨gf, 0, none⟩) ∧ Hid (Blk wf gf 52 [.string (ofN x.op enc), .string ⟨#[l0, l1, l2]⟩]) ∧ Hid (Below wa.heap.size wa wf))
          case first =>
            refine wp_region_last 14 (fun w' => w'.cell? ⟨w.heap.size, 0, none⟩ = some (.bool enc) ∧ w'.cell? ⟨w.heap.size, 1, none⟩ = some (.slice (some ⟨bC, oC, none⟩) C.length cc) ∧ w'.cell? ⟨bC, oC + i * 4, none⟩ = some (.int .i64 x.op)) (by kernel_rfl) (HSS.out _ ((Below.refl wa.heap.size wa).drew)) (fun hHeld => ?_)
            refine wpAnyF_take [14] (by kernel_rfl) (i := 0) (v := ?vq1) rfl (by kernel_rfl) (by kernel_rfl) (by kernel_rfl) (fun _ _ _ h => h) (Or.inl ⟨by kernel_rfl, ?hyq1⟩) hHeld ?restq1
            case hyq1 => intro w' hSw; (try dsimp only at hSw); go_simp; try with_reducible rfl
            simp only [Act.put]
            try dsimp only
            refine wpAnyF_take [14] (by kernel_rfl) (i := 1) (v := ?vq2) rfl (by kernel_rfl) (by kernel_rfl) (by kernel_rfl) (fun _ _ _ h => h) (Or.inl ⟨by kernel_rfl, ?hyq2⟩) hHeld ?restq2
            case hyq2 => intro w' hSw; (try dsimp only at hSw); go_simp; try with_reducible rfl
            simp only [Act.put]
            try dsimp only
            refine wpAnyF_take [14] (by kernel_rfl) (i := 2) (v := ?vq3) rfl (by kernel_rfl) (by kernel_rfl) (by kernel_rfl) (fun _ _ _ h => h) (Or.inl ⟨by kernel_rfl, ?hyq3⟩) hHeld ?restq3
            case hyq3 => intro w' hSw; (try dsimp only at hSw); go_simp; try with_reducible rfl
            simp only [Act.put]
            try dsimp only
            refine wpAnyF_take [14] (by kernel_rfl) (i := 3) (v := ?vq4) rfl (by kernel_rfl) (by kernel_rfl) (by kernel_rfl) (fun _ _ _ h => h) (Or.inl ⟨by kernel_rfl, ?hyq4⟩) hHeld ?restq4
            case hyq4 => intro w' hSw; (try dsimp only at hSw); go_simp; try with_reducible rfl
            simp only [Act.put]
            try dsimp only
            refine wpAnyF_take [14] (by kernel_rfl) (i := 4) (v := ?vq5) rfl (by kernel_rfl) (by kernel_rfl) (by kernel_rfl) (fun _ _ _ h => h) (Or.inl ⟨by kernel_rfl, ?hyq5⟩) hHeld ?restq5
            case hyq5 => intro w' hSw; (try dsimp only at hSw); go_simp; try with_reducible rfl
            simp only [Act.put]
            try dsimp only
            refine wpAnyF_take [14] (by kernel_rfl) (i := 5) (v := ?vq6) rfl (by kernel_rfl) (by kernel_rfl) (by kernel_rfl) (fun _ _ _ h => h) (Or.inl ⟨by kernel_rfl, ?hyq6⟩) hHeld ?restq6
            case hyq6 => intro w' hSw; (try dsimp only at hSw); go_simp; try with_reducible rfl
            simp only [Act.put]
            try dsimp only
            refine wpAnyF_take [14] (by kernel_rfl) (i := 6) (v := ?vq7) rfl (by kernel_rfl) (by kernel_rfl) (by kernel_rfl) (fun _ _ _ h => h) (Or.inl ⟨by kernel_rfl, ?hyq7⟩) hHeld ?restq7
            case hyq7 => intro w' hSw; (try dsimp only at hSw); go_simp; try with_reducible rfl
            simp only [Act.put]
            try dsimp only
            refine wpAnyF_take [14] (by kernel_rfl) (i := 7) (v := ?vq8) rfl (by kernel_rfl) (by kernel_rfl) (by kernel_rfl) (fun _ _ _ h => h) (Or.inl ⟨by kernel_rfl, ?hyq8⟩) hHeld ?restq8
            case hyq8 => intro w' hSw; (try dsimp only at hSw); go_simp; try with_reducible rfl
            simp only [Act.put]
            try dsimp only
            refine wpAnyF_ready (rs := [8, 12]) (by kernel_rfl) (by simp) ?_
            refine AllReadyF.cons rfl (fun K hK => ?_) ?_
            · go_simp
              refine (HOf.out _).mono ?_
              rintro e wO ⟨rfl, hbO⟩
              dsimp only
              have HX := hide_ (below_to ((Below.refl wa.heap.size wa).drew) hbO)
              clear hbO
              refine hK.out _ _ (HSS.out _ HX.out) (fun hHeld => ?_)
              clear hK K
              refine wpAnyF_take [14] (by kernel_rfl) (i := 9) (v := ?vq9) rfl (by kernel_rfl) (by kernel_rfl) (by kernel_rfl) (fun _ _ _ h => h) (Or.inl ⟨by kernel_rfl, ?hyq9⟩) hHeld ?restq9
              case hyq9 => intro w' hSw; (try dsimp only at hSw); go_simp; try with_reducible rfl
              simp only [Act.put]
              try dsimp only
              refine wpAnyF_take [14] (by kernel_rfl) (i := 10) (v := ?vq10) rfl (by kernel_rfl) (by kernel_rfl) (by kernel_rfl) (fun _ _ _ h => h) (Or.inl ⟨by kernel_rfl, ?hyq10⟩) hHeld ?restq10
              case hyq10 => intro w' hSw; (try dsimp only at hSw); go_simp; try with_reducible rfl
              simp only [Act.put]
              try dsimp only
              refine wpAnyF_take [14] (by kernel_rfl) (i := 11) (v := ?vq11) rfl (by kernel_rfl) (by kernel_rfl) (by kernel_rfl) (fun _ _ _ h => h) (Or.inl ⟨by kernel_rfl, ?hyq11⟩) hHeld ?restq11
              case hyq11 => intro w' hSw; (try dsimp only at hSw); go_simp; try with_reducible rfl
              simp only [Act.put]
              try dsimp only
              refine wpAnyF_ready (rs := [12]) (by kernel_rfl) (by simp) ?_
              refine AllReadyF.cons rfl (fun K hK => ?_) AllReadyF.nil
              go_simp
              obtain ⟨wA, hwA⟩ : ∃ wx, wx = World.alloc wO (.cells #[.string ⟨#[]⟩, .string ⟨#[]⟩] 52) := ⟨_, rfl⟩
              have KA : Hid (Blk wA wO.heap.size 52 [.string ⟨#[]⟩, .string ⟨#[]⟩]) := hide_ (by rw [hwA]; exact Blk.newA _ _ _)
              have hbA : Below wO.heap.size wO wA := by rw [hwA]; exact below1 _ _
              have HGA : Hid (wa.heap.size ≤ wO.heap.size) := hide_ HX.out.size
              have HX := hide_ (below_to HX.out hbA)
              try rw [← hwA]
              clear hwA hbA
              refine hK.out _ _ (HSS.out _ HX.out) (fun hHeld => ?_)
              clear hK K
              refine wpAnyF_ready (rs := [13]) (by kernel_rfl) (by simp) ?_
              refine AllReadyF.cons rfl (fun K hK => ?_) AllReadyF.nil
              have z0 := KA.out.cell 0; have z1 := KA.out.cell 1
              have zf := fun i => KA.out.frozen i
              simp at z0 z1
              go_simp
              have KS := hide_ (wr2o KA.out (.string (ofN x.op enc)) (.string ⟨#[l0, l1, l2]⟩))
              have HX := hide_ (below_set (below_set HX.out _ 0 (.string (ofN x.op enc)) HGA.out) _ 1 (.string ⟨#[l0, l1, l2]⟩) HGA.out)
              refine hK.out _ _ (HSS.out _ HX.out) (fun hHeld => ?_)
              clear hK K
              refine wpAnyF_ready (rs := [14]) (by kernel_rfl) (by simp) ?_
              refine AllReadyF.last rfl (fun K hK => ?_)
              go_simp
              refine hK.out _ _ ?_
              clear hK K
              refine wpAnyF_done (by kernel_rfl) ?_ _
              go_wp2_with fail
              go_meet
              case rel => exact ⟨_, _, rfl, rfl, KS, HX⟩
            refine AllReadyF.cons rfl (fun K hK => ?_) AllReadyF.nil
            go_simp
            obtain ⟨wA, hwA⟩ : ∃ wx, wx = (World.alloc wa (.cells #[.string ⟨#[]⟩, .string ⟨#[]⟩] 52)).drew := ⟨_, rfl⟩
            have KA : Hid (Blk wA wa.heap.size 52 [.string ⟨#[]⟩, .string ⟨#[]⟩]) := hide_ (by rw [hwA]; exact (Blk.newA _ _ _).drew)
            have HGA : Hid (wa.heap.size ≤ wa.heap.size) := hide_ (Nat.le_refl _)
            have HX : Hid (Below wa.heap.size wa wA) := hide_ (by rw [hwA]; exact (below1 _ _).drew)
            try rw [← hwA]
            clear hwA
            refine hK.out _ _ (HSS.out _ HX.out) (fun hHeld => ?_)
            clear hK K
            refine wpAnyF_ready (rs := [8]) (by kernel_rfl) (by simp) ?_
            refine AllReadyF.cons rfl (fun K hK => ?_) AllReadyF.nil
            go_simp
            refine (HOf.out _).mono ?_
            rintro e wO ⟨rfl, hbO⟩
            dsimp only
            have KA := hide_ (KA.out.later hbO)
            have HX := hide_ (below_to (HX.out) hbO)
            clear hbO
            refine hK.out _ _ (HSS.out _ HX.out) (fun hHeld => ?_)
            clear hK K
            refine wpAnyF_take [14] (by kernel_rfl) (i := 9) (v := ?vq12) rfl (by kernel_rfl) (by kernel_rfl) (by kernel_rfl) (fun _ _ _ h => h) (Or.inl ⟨by kernel_rfl, ?hyq12⟩) hHeld ?restq12
            case hyq12 => intro w' hSw; (try dsimp only at hSw); go_simp; try with_reducible rfl
            simp only [Act.put]
            try dsimp only
            refine wpAnyF_take [14] (by kernel_rfl) (i := 10) (v := ?vq13) rfl (by kernel_rfl) (by kernel_rfl) (by kernel_rfl) (fun _ _ _ h => h) (Or.inl ⟨by kernel_rfl, ?hyq13⟩) hHeld ?restq13
            case hyq13 => intro w' hSw; (try dsimp only at hSw); go_simp; try with_reducible rfl
            simp only [Act.put]
            try dsimp only
            refine wpAnyF_take [14] (by kernel_rfl) (i := 11) (v := ?vq14) rfl (by kernel_rfl) (by kernel_rfl) (by kernel_rfl) (fun _ _ _ h => h) (Or.inl ⟨by kernel_rfl, ?hyq14⟩) hHeld ?restq14
            case hyq14 => intro w' hSw; (try dsimp only at hSw); go_simp; try with_reducible rfl
            simp only [Act.put]
            try dsimp only
            refine wpAnyF_ready (rs := [13]) (by kernel_rfl) (by simp) ?_
            refine AllReadyF.cons rfl (fun K hK => ?_) AllReadyF.nil
            have z0 := KA.out.cell 0; have z1 := KA.out.cell 1
            have zf := fun i => KA.out.frozen i
            simp at z0 z1
            go_simp
            have KS := hide_ (wr2o KA.out (.string (ofN x.op enc)) (.string ⟨#[l0, l1, l2]⟩))
            have HX := hide_ (below_set (below_set HX.out _ 0 (.string (ofN x.op enc)) HGA.out) _ 1 (.string ⟨#[l0, l1, l2]⟩) HGA.out)
            refine hK.out _ _ (HSS.out _ HX.out) (fun hHeld => ?_)
            clear hK K
            refine wpAnyF_ready (rs := [14]) (by kernel_rfl) (by simp) ?_
            refine AllReadyF.last rfl (fun K hK => ?_)
            go_simp
            refine hK.out _ _ ?_
            clear hK K
            refine wpAnyF_done (by kernel_rfl) ?_ _
            go_wp2_with fail
            go_meet
            case rel => exact ⟨_, _, rfl, rfl, KS, HX⟩
          case rest =>
          obtain ⟨gf, wb, rfl, rfl, KF, HBab⟩ := hcut
          have HPb := hide_ (HPi.out.later HBab.out)
          clear HSS HOf
          have HSS : Hid (∀ w', Below wb.heap.size wb w' → (fun w' => w'.cell? ⟨gf, 0, none⟩ = some (.string (ofN x.op enc))) w') := hide_ (fun w' hb => (KF.out.later hb).cell 0)
          have HWb : Hid (∀ (n : Int) (w' : World), (-1 ≤ n ∧ n ≤ 16777216) → Below wb.heap.size wb w' → Calls Tryd.prog 45 #[.int .i64 n] w' fun e w'' => e = .returned (.string ⟨(opT n).toArray⟩) ∧ Below w'.heap.size w' w'') := hide_ (fun n w' hn hb => HWd.out n w' hn hb HPb.out.bl)
          go_upto_region 16 with fail
          go_cut [6] from 68 to 75 (fun x6 wc => ∃ (v5 : Value) (wf : World), wf = wc ∧ v5 = x6 ∧ Hid (PrM w wf enc (.slice (some ⟨bC, oC, none⟩) C.length cc) (.slice ae E.length ce) v5 (l ++ s2.data.toList)) ∧ Hid (Blk wf gf 52 [.string (ofN x.op enc), .string ⟨#[l0, l1, l2]⟩]))
          case first =>
            refine wp_region_last 8 (fun w' => w'.cell? ⟨gf, 0, none⟩ = some (.string (ofN x.op enc))) (by kernel_rfl) (HSS.out _ (Below.refl wb.heap.size wb).drew) (fun hHeld => ?_)
            refine wpAnyF_take [8] (by kernel_rfl) (i := 0) (v := ?vs1) rfl (by kernel_rfl) (by kernel_rfl) (by kernel_rfl) (fun _ _ _ h => h) (Or.inl ⟨by kernel_rfl, ?hys1⟩) hHeld ?rests1
            case hys1 => intro w' hSw; (try dsimp only at hSw); go_simp; try with_reducible rfl
            simp only [Act.put]
            try dsimp only
            refine wpAnyF_take [8] (by kernel_rfl) (i := 1) (v := ?vs2) rfl (by kernel_rfl) (by kernel_rfl) (by kernel_rfl) (fun _ _ _ h => h) (Or.inl ⟨by kernel_rfl, ?hys2⟩) hHeld ?rests2
            case hys2 => intro w' hSw; (try dsimp only at hSw); go_simp; try with_reducible rfl
            simp only [Act.put]
            try dsimp only
            refine wpAnyF_take [8] (by kernel_rfl) (i := 4) (v := ?vs3) rfl (by kernel_rfl) (by kernel_rfl) (by kernel_rfl) (fun _ _ _ h => h) (Or.inl ⟨by kernel_rfl, ?hys3⟩) hHeld ?rests3
            case hys3 => intro w' hSw; (try dsimp only at hSw); go_simp; try with_reducible rfl
            simp only [Act.put]
            try dsimp only
            refine wpAnyF_take [8] (by kernel_rfl) (i := 5) (v := ?vs4) rfl (by kernel_rfl) (by kernel_rfl) (by kernel_rfl) (fun _ _ _ h => h) (Or.inl ⟨by kernel_rfl, ?hys4⟩) hHeld ?rests4
            case hys4 => intro w' hSw; (try dsimp only at hSw); go_simp; try with_reducible rfl
            simp only [Act.put]
            try dsimp only
            refine wpAnyF_ready (rs := [2]) (by kernel_rfl) (by simp) ?_
            refine AllReadyF.cons rfl (fun K hK => ?_) AllReadyF.nil
            go_simp
            refine (HWb.out (i : Int) _ (by omega) ((Below.refl wb.heap.size wb).drew)).mono ?_
            rintro e wO ⟨rfl, hbO⟩
            dsimp only
            have HX := hide_ (below_to (Below.refl wb.heap.size wb).drew hbO)
            clear hbO
            rw [HSi.out]
            refine hK.out _ _ (HSS.out _ HX.out) (fun hHeld => ?_)
            clear hK K
            refine wpAnyF_take [8] (by kernel_rfl) (i := 3) (v := ?vs5) rfl (by kernel_rfl) (by kernel_rfl) (by kernel_rfl) (fun _ _ _ h => h) (Or.inl ⟨by kernel_rfl, ?hys5⟩) hHeld ?rests5
            case hys5 => intro w' hSw; (try dsimp only at hSw); go_simp; try with_reducible rfl
            simp only [Act.put]
            try dsimp only
            refine wpAnyF_take [8] (by kernel_rfl) (i := 6) (v := ?vs6) rfl (by kernel_rfl) (by kernel_rfl) (by kernel_rfl) (fun _ _ _ h => h) (Or.inl ⟨by kernel_rfl, ?hys6⟩) hHeld ?rests6
            case hys6 => intro w' hSw; (try dsimp only at hSw); go_simp; try with_reducible rfl
            simp only [Act.put]
            try dsimp only
            refine wpAnyF_ready (rs := [7]) (by kernel_rfl) (by simp) ?_
            refine AllReadyF.cons rfl (fun K hK => ?_) AllReadyF.nil
            obtain ⟨v5, w5, hr5, hp5, hu5⟩ := (HPb.out.later HX.out).say (s := s2) HSz.out (by have := HLl.out; omega)
            have HR5 := hide_ hr5
            have HP5 := hide_ hp5
            have KF5 := hide_ ((KF.out.later HX.out).upd hu5 ((HPb.out.later HX.out).nob (KF.out.later HX.out) (by decide)))
            clear hr5 hp5 hu5
            refine step_append_run rfl (.tmp 68) (.tmp 74) 30 9 rfl (v := .slice aB l.length cB) (u := .string s2) (by kernel_rfl) (by kernel_rfl) HR5.out ?_
            refine hK.out _ _ (KF5.out.cell 0) (fun hHeld => ?_)
            clear hK K
            refine wpAnyF_ready (rs := [8]) (by kernel_rfl) (by simp) ?_
            refine AllReadyF.last rfl (fun K hK => ?_)
            go_simp
            refine hK.out _ _ ?_
            clear hK K
            refine wpAnyF_done (by kernel_rfl) ?_ _
            go_wp2_with fail
            go_meet
            case rel => exact ⟨v5, w5, rfl, rfl, HP5, KF5⟩
          case rest =>
          obtain ⟨vc, wc, rfl, rfl, HPc, KFc⟩ := hcut
          have HRc := hide_ (hr.out.later HPc.out.bl)
          clear HSS HPb KF HPi HRa HBab z1 z2 hs1 hs2
          have HSS : Hid (∀ w', Below wc.heap.size wc w' → (fun w' => w'.cell? ⟨w.heap.size, 1, none⟩ = some (.slice (some ⟨bC, oC, none⟩) C.length cc) ∧ w'.cell? ⟨bC, oC + i * 4, none⟩ = some (.int .i64 x.op) ∧ w'.cell? ⟨bC, oC + i * 4 + 1, none⟩ = some (.int .i64 x.a) ∧ w'.cell? ⟨bC, oC + i * 4 + 2, none⟩ = some (.int .i64 x.b) ∧ w'.cell? ⟨bC, oC + i * 4 + 3, none⟩ = some (.int .i64 x.c) ∧ w'.cell? ⟨gf, 0, none⟩ = some (.string (ofN x.op enc)) ∧ w'.cell? ⟨gf, 1, none⟩ = some (.string ⟨#[l0, l1, l2]⟩)) w') := hide_ (fun w' hb => ⟨(HPc.out.later hb).p.cell 1, (IRow.at (HRc.out.later hb) HXi.out).1, (IRow.at (HRc.out.later hb) HXi.out).2.1, (IRow.at (HRc.out.later hb) HXi.out).2.2.1, (IRow.at (HRc.out.later hb) HXi.out).2.2.2, (KFc.out.later hb).cell 0, (KFc.out.later hb).cell 1⟩)
          go_upto_region 17 with fail
          go_cut [11] from 76 to 82 (fun x11 wx => ∃ (vL : Value) (wf : World), wf = wx ∧ x11 = vL ∧ Hid (IOwn wf wc.heap.size vL (nmd x)) ∧ Hid (Below wc.heap.size wc wf))
          case first =>
            refine wp_region_last 7 (fun w' => w'.cell? ⟨w.heap.size, 1, none⟩ = some (.slice (some ⟨bC, oC, none⟩) C.length cc) ∧ w'.cell? ⟨bC, oC + i * 4, none⟩ = some (.int .i64 x.op) ∧ w'.cell? ⟨bC, oC + i * 4 + 1, none⟩ = some (.int .i64 x.a) ∧ w'.cell? ⟨bC, oC + i * 4 + 2, none⟩ = some (.int .i64 x.b) ∧ w'.cell? ⟨bC, oC + i * 4 + 3, none⟩ = some (.int .i64 x.c) ∧ w'.cell? ⟨gf, 0, none⟩ = some (.string (ofN x.op enc)) ∧ w'.cell? ⟨gf, 1, none⟩ = some (.string ⟨#[l0, l1, l2]⟩)) (by kernel_rfl) (HSS.out _ ((Below.refl wc.heap.size wc).drew)) (fun hHeld => ?_)
            refine wpAnyF_take [7] (by kernel_rfl) (i := 0) (v := ?vo1) rfl (by kernel_rfl) (by kernel_rfl) (by kernel_rfl) (fun _ _ _ h => h) (Or.inl ⟨by kernel_rfl, ?hyo1⟩) hHeld ?resto1
            case hyo1 => intro w' hSw; (try dsimp only at hSw); go_simp; try with_reducible rfl
            simp only [Act.put]
            try dsimp only
            refine wpAnyF_take [7] (by kernel_rfl) (i := 1) (v := ?vo2) rfl (by kernel_rfl) (by kernel_rfl) (by kernel_rfl) (fun _ _ _ h => h) (Or.inl ⟨by kernel_rfl, ?hyo2⟩) hHeld ?resto2
            case hyo2 => intro w' hSw; (try dsimp only at hSw); go_simp; try with_reducible rfl
            simp only [Act.put]
            try dsimp only
            refine wpAnyF_take [7] (by kernel_rfl) (i := 2) (v := ?vo3) rfl (by kernel_rfl) (by kernel_rfl) (by kernel_rfl) (fun _ _ _ h => h) (Or.inl ⟨by kernel_rfl, ?hyo3⟩) hHeld ?resto3
            case hyo3 => intro w' hSw; (try dsimp only at hSw); go_simp; try with_reducible rfl
            simp only [Act.put]
            try dsimp only
            refine wpAnyF_take [7] (by kernel_rfl) (i := 3) (v := ?vo4) rfl (by kernel_rfl) (by kernel_rfl) (by kernel_rfl) (fun _ _ _ h => h) (Or.inl ⟨by kernel_rfl, ?hyo4⟩) hHeld ?resto4
            case hyo4 => intro w' hSw; (try dsimp only at hSw); go_simp; try with_reducible rfl
            simp only [Act.put]
            try dsimp only
            refine wpAnyF_take [7] (by kernel_rfl) (i := 4) (v := ?vo5) rfl (by kernel_rfl) (by kernel_rfl) (by kernel_rfl) (fun _ _ _ h => h) (Or.inl ⟨by kernel_rfl, ?hyo5⟩) hHeld ?resto5
            case hyo5 => intro w' hSw; (try dsimp only at hSw); go_simp; try with_reducible rfl
            simp only [Act.put]
            try dsimp only
            refine wpAnyF_take [7] (by kernel_rfl) (i := 5) (v := ?vo6) rfl (by kernel_rfl) (by kernel_rfl) (by kernel_rfl) (fun _ _ _ h => h) (Or.inl ⟨by kernel_rfl, ?hyo6⟩) hHeld ?resto6
            case hyo6 => intro w' hSw; (try dsimp only at hSw); go_simp; try with_reducible rfl
            simp only [Act.put]
            try dsimp only
            refine wpAnyF_ready (rs := [6]) (by kernel_rfl) (by simp) ?_
            refine AllReadyF.cons rfl (fun K hK => ?_) AllReadyF.nil
            go_simp
            refine (HOp.out _).mono ?_
            rintro e wO ⟨⟨vL, rfl, HOl⟩, hbO⟩
            dsimp only
            have HX := hide_ (below_to ((Below.refl wc.heap.size wc).drew) hbO)
            clear hbO
            refine hK.out _ _ (HSS.out _ HX.out) (fun hHeld => ?_)
            clear hK K
            refine wpAnyF_ready (rs := [7]) (by kernel_rfl) (by simp) ?_
            refine AllReadyF.last rfl (fun K hK => ?_)
            go_simp
            refine hK.out _ _ ?_
            clear hK K
            refine wpAnyF_done (by kernel_rfl) ?_ _
            go_wp2_with fail
            go_meet
            case rel => exact ⟨vL, _, rfl, rfl, hide_ (own_base HOl.out (Nat.le_refl _)), HX⟩
          case rest =>
          obtain ⟨vL, wd, rfl, rfl, HOl, HBcd⟩ := hcut
          have HPd0 := HPc.out.later HBcd.out
          clear HSS HPc HRc HOp KFc
          obtain ⟨aL, cL, hvL, -⟩ := HOl.out.row
          subst hvL
          obtain ⟨l5, hl5⟩ : ∃ l5, l ++ s2.data.toList = l5 := ⟨_, rfl⟩
          have HL5 : Hid (l5.length ≤ 300001000) := hide_ (by rw [← hl5, List.length_append]; have := HLl.out; have := HSz.out; rw [Lib.size_eq] at this; omega)
          rw [hl5] at HPd0 HFin
          have HPd : Hid (PrM w wd enc (.slice (some ⟨bC, oC, none⟩) C.length cc) (.slice ae E.length ce) vc (l5 ++ ((nmd x).take 0).flatMap opS)) := hide_ (by simpa using HPd0)
          clear HPd0 hl5
          unfold nmd at hnml
          have HNm2 : Hid (∀ n ∈ nmd x, -1 ≤ n ∧ n ≤ 16777216) := hide_ HNm.out
          have hnml : (nmd x).length ≤ 3 := hnml
          generalize hnm : nmd x = nm at *
          clear hnm HNm
          go_wp2_with fail
          go_loopw [6, 12] (fun x6 x12 wr => ∃ (vB : Value) (k : Nat), vB = x6 ∧ k ≤ nm.length ∧ x12 = .int .i64 (k : Int) ∧ Hid (PrM w wr enc (.slice (some ⟨bC, oC, none⟩) C.length cc) (.slice ae E.length ce) vB (l5 ++ (nm.take k).flatMap opS)) ∧ Hid (IOwn wr wc.heap.size (.slice aL nm.length cL) nm)) (fun _ x12 _ => nm.length - (intOf x12).toNat)
          case atStart => exact ⟨vc, 0, rfl, Nat.zero_le _, rfl, HPd, HOl⟩
          case round =>
            obtain ⟨vB, k, rfl, hk, rfl, HPk, HOk⟩ := hrel
            generalize wr = wk at *
            clear HPd HOl
            have hfl : ((nm.take k).flatMap opS).length ≤ 200 := by
              have h1 : ∀ (q : List Int), (∀ n ∈ q, -1 ≤ n ∧ n ≤ 16777216) → (q.flatMap opS).length ≤ 31 * q.length := by
                intro q
                induction q with
                | nil => intro _; simp
                | cons y q ih =>
                  intro hq
                  have a := ih (fun n hn => hq n (by simp [hn]))
                  have b := itoa_len y (hq y (by simp))
                  have e : ((y :: q).flatMap opS).length = (opS y).length + (q.flatMap opS).length := by rw [List.flatMap_cons, List.length_append]
                  have c : (opS y).length = (opT y).length + 1 := by unfold opS; rw [List.length_cons]
                  rw [e, c, List.length_cons]
                  omega
              have h2 := h1 (nm.take k) (fun n hn => HNm2.out n (List.mem_of_mem_take hn))
              rw [List.length_take] at h2
              omega
            have HLk : Hid ((l5 ++ (nm.take k).flatMap opS).length ≤ 400000000) := hide_ (by rw [List.length_append]; have := HL5.out; omega)
            clear hfl
            by_cases hkl : k < nm.length
            · have hkl' : (k : Int) < nm.length := by omega
              have hy : nm[k]? = some (nm[k]'hkl) := List.getElem?_eq_getElem hkl
              have hrg := HNm2.out _ (List.getElem_mem hkl)
              have HTk : Hid ((nm.take (k + 1)).flatMap opS = (nm.take k).flatMap opS ++ opS (nm[k]'hkl)) := hide_ (by rw [List.take_succ_eq_append_getElem hkl, List.flatMap_append]; simp)
              obtain ⟨bL, oL, hbL, -, hcL⟩ := (IOwn.rowZ HOk.out).open (by omega)
              subst hbL
              have hck := hcL k hkl
              rw [show nm.getD k 0 = nm[k]'hkl by rw [List.getD, hy]; rfl] at hck
              generalize nm[k]'hkl = y at *
              obtain ⟨sK, hsK⟩ : ∃ s : ByteArray, ⟨(opT y).toArray⟩ = s := ⟨_, rfl⟩
              have hzk : sK.size ≤ 30 := by rw [← hsK, Lib.size_eq]; exact itoa_len y hrg
              have HCw : Hid (Calls Tryd.prog 45 #[.int .i64 y] wk fun e w'' => e = .returned (.string sK) ∧ Below wk.heap.size wk w'') := hide_ (by rw [← hsK]; exact HWd.out y wk hrg (Below.refl _ _) HPk.out.bl)
              obtain ⟨t1, ht1⟩ : ∃ s, (⟨#[32]⟩ ++ sK : ByteArray) = s := ⟨_, rfl⟩
              have hd1 : t1.data.toList = [32] ++ sK.data.toList := by rw [← ht1, cat_data]
              have HDk : Hid (t1.data.toList = opS y) := hide_ (by rw [hd1, ← hsK]; rfl)
              have HZk : Hid (t1.size ≤ 1000) := hide_ (by rw [Lib.size_eq, hd1, List.length_append, ← Lib.size_eq]; simp; omega)
              have z1 : ¬ 9223372036854775807 < 1 + sK.size := by omega
              clear hd1
              clear hsK hy hcL
              go_wp2_with (first
                | (go_at_call 45; refine HCw.out.mono ?_; rintro e w6 ⟨rfl, hB6⟩; obtain ⟨v7, w7, hr7, hp7, hu7⟩ := (HPk.out.later hB6).say HZk.out (by have := HLk.out; omega); (have HR7 := hide_ hr7); (have HP7 := hide_ hp7); (have HO7 := hide_ ((HOk.out.later hB6).upd hu7 (fun q hq e => by obtain ⟨zs, hz⟩ := ownS_type (HOk.out.later hB6) hq; exact (HPk.out.later hB6).nob hz (by decide) e))); clear hr7 hp7 hu7 hB6)
                | (at_builtin; have _t := HR7; refine wpList_append_run rfl (.tmp 89) (.tmp 95) 30 9 rfl rfl rfl HR7.out ?_; clear HR7))
              go_roundw
              case rel => exact ⟨v7, k + 1, rfl, by omega, by go_num, hide_ (by have := HP7.out; rw [HDk.out, List.append_assoc, ← HTk.out] at this; exact this), HO7⟩
              case measure => simp [intOf]; omega
            · obtain rfl : k = nm.length := by omega
              obtain ⟨v8, w8, hr8, hp8⟩ := HPk.out.nl (by have := HLk.out; omega)
              have HR8 := hide_ hr8
              have HP8 : Hid (PrM w w8 enc (.slice (some ⟨bC, oC, none⟩) C.length cc) (.slice ae E.length ce) v8 (pr ++ codeT C (i + 1))) := hide_ (by rw [List.take_length, HFin.out] at hp8; exact hp8)
              clear hr8 hp8
              go_wp2_with (first | (at_builtin; have _t := HR8; refine wpList_append_run rfl (.tmp 97) (.tmp 98) 30 30 rfl rfl rfl HR8.out ?_; clear HR8))
              go_roundw
              case rel => exact ⟨v8, i + 1, rfl, by omega, by go_num, HP8⟩
              case measure => simp [intOf]; omega
        · obtain rfl : i = C.length := by omega
          have HPe : Hid (PrM w wa enc (.slice ac C.length cc) (.slice ae E.length ce) vB (prnP enc C E)) := hide_ (by have := HPi.out; unfold prnP; rw [HPr.out]; exact this)
          obtain ⟨aZ, cZ, hvZ, hcv⟩ := bt_conv HPe.out.B
          subst hvZ
          have HCv := hide_ hcv
          have HBf := hide_ HPe.out.bl
          have hcv' := HCv.out
          clear HCv
          go_wp2
          go_ret3
          exact ⟨rfl, HBf.out⟩
  · have h0' : (e1 != 0) = true := by simpa using h0
    have HN := hide_ (HPN.out (fun h => h0 (by injection h)))
    clear h0 HPA HPN HZ
    go_wp2_with fail
    go_region
    have HBf := hide_ HB3.out.drew
    go_wp2
    go_ret3
    exact ⟨by rw [HN.out]; rfl, HBf.out⟩
end Go.Proofs.YteadmiikenpjeaaDoor
/- Code: Lend, Kept; the law's cut. -/
namespace Go.Proofs.YteadmiikenpjeaaDoor
open Go.RowKit
set_option linter.unusedVariables false

def mkI : In := ⟨-901, 0, 0, 0⟩
theorem leC (w : World) (a : Option Addr) (c : Nat) (C : List In) (hC : IRow w a C) (hn : a = none → c = 0) (hl : C.length ≤ 1000000) :
    ∃ v1 w1 g2 c2 w2, (Builtin.append_ #[22, 22] 22 #[.slice none 0 0, .slice a C.length c]).run Tryd.prog w = .ok v1 w1 ∧
      (Builtin.append_ #[22, 22] 22 #[v1, .slice (some ⟨w1.heap.size, 0, none⟩) 1 1]).run Tryd.prog (w1.alloc (.cells #[.int .i64 (-901), .int .i64 0, .int .i64 0, .int .i64 0] 41)) = .ok (.slice (some ⟨g2, 0, none⟩) (C.length + 1) c2) w2 ∧
      COwn w2 w.heap.size (.slice (some ⟨g2, 0, none⟩) (C.length + 1) c2) (C ++ [mkI]) ∧ Below w.heap.size w w2 ∧ C.length + 1 ≤ c2 := by
  obtain ⟨v1, w1, h1, h2, h3⟩ := run_copyG (P := Tryd.prog) inc_len inc_one Tryd.underlying22 infoIn rfl (by decide) w a C.length c C rfl hC hn (by unfold maxLen; omega) (by omega)
  have h2r : COwn w1 w.heap.size v1 C := h2
  obtain ⟨g, cap, w2, k1, k2, k3, k4⟩ := h2r.push mkI (by omega) h3.size
  refine ⟨v1, w1, g, cap, w2, h1, k1, k2, h3.trans (k3.below _ h3.size (fun k hk => (World.ownsRow.lt h2r k hk).1)), ?_⟩
  obtain ⟨a', c', e, hc, -, -⟩ := k2.row
  injection e with _ _ e
  rw [e]
  simpa using hc
theorem leE (w : World) (a : Option Addr) (c : Nat) (E : List Int) (hE : Row .i64 w a E) (hn : a = none → c = 0) (hl : E.length ≤ 1000000) :
    ∃ v1 w1 g2 c2 w2, (Builtin.append_ #[23, 23] 23 #[.slice none 0 0, .slice a E.length c]).run Tryd.prog w = .ok v1 w1 ∧
      (Builtin.append_ #[23, 23] 23 #[v1, .slice (some ⟨w1.heap.size, 0, none⟩) 1 1]).run Tryd.prog (w1.alloc (.cells #[.int .i64 (-902)] 3)) = .ok (.slice (some ⟨g2, 0, none⟩) (E.length + 1) c2) w2 ∧
      IOwn w2 w.heap.size (.slice (some ⟨g2, 0, none⟩) (E.length + 1) c2) (E ++ [-902]) ∧ Below w.heap.size w w2 ∧ E.length + 1 ≤ c2 := by
  obtain ⟨v1, w1, h1, h2, h3⟩ := run_copy elI w 23 w.heap.size a E.length c E rfl hE hn (by unfold maxLen; omega) (by omega) (Nat.le_refl _)
  have h2r : IOwn w1 w.heap.size v1 E := h2
  have hb1 : Below w.heap.size w w1 := (Below.refl _ w).grown h3 (Nat.le_refl _) (fun k hk => by cases hk)
  obtain ⟨g, cap, w2, k1, k2, k3, k4⟩ := h2r.push (-902) (by omega) hb1.size
  refine ⟨v1, w1, g, cap, w2, h1, k1, k2, hb1.trans (k3.below _ hb1.size (fun k hk => (World.ownsRow.lt h2r k hk).1)), ?_⟩
  obtain ⟨a', c', e, -, -, hc⟩ := k2.row
  injection e with _ _ e
  rw [e]
  simpa using hc
/-- A program that is lent: its lists, with a mark behind each. -/
structure LnP (w : World) (B : Nat) (gC cC gE cE : Nat) (C : List In) (E : List Int) : Prop where
  c : COwn w B (.slice (some ⟨gC, 0, none⟩) (C.length + 1) cC) (C ++ [mkI])
  e : IOwn w B (.slice (some ⟨gE, 0, none⟩) (E.length + 1) cE) (E ++ [-902])
  cc : C.length + 1 ≤ cC
  ce : E.length + 1 ≤ cE
section
variable {w w' : World} {B gC cC gE cE : Nat} {C : List In} {E : List Int}
theorem LnP.later (h : LnP w B gC cC gE cE C E) (hB : Below w.heap.size w w') : LnP w' B gC cC gE cE C E := ⟨h.c.later hB, h.e.later hB, h.cc, h.ce⟩
theorem LnP.upd (h : LnP w B gC cC gE cE C E) {S : Nat → Prop} (hu : Upd S w w') (h1 : ¬ S gC) (h2 : ¬ S gE) : LnP w' B gC cC gE cE C E :=
  ⟨ownS_upd h.c hu (fun k hk hS => by have := own_is hk; subst this; exact h1 hS), h.e.upd hu (fun k hk hS => by have := own_is hk; subst this; exact h2 hS), h.cc, h.ce⟩
theorem LnP.rowC (h : LnP w B gC cC gE cE C E) : IRow w (some ⟨gC, 0, none⟩) C := by
  obtain ⟨a, c, e, -, -, hr⟩ := h.c.row
  injection e with e _ _
  subst e
  have := hr.take C.length
  rw [List.take_left] at this
  exact this
theorem LnP.rowE (h : LnP w B gC cC gE cE C E) : Row .i64 w (some ⟨gE, 0, none⟩) E := by
  obtain ⟨a, c, e, hr, -, -⟩ := h.e.row
  injection e with e _ _
  subst e
  rcases hr with ⟨h1, h2⟩ | ⟨x, hx, hc⟩
  · cases h1
  · refine .inr ⟨x, hx, fun i hi => ?_⟩
    have := hc i (by rw [List.length_append]; omega)
    rw [this]
    simp [List.getD, List.getElem?_append_left hi]
theorem LnP.markC (h : LnP w B gC cC gE cE C E) : w.cell? ⟨gC, C.length * 4, none⟩ = some (.int .i64 (-901)) := by
  obtain ⟨a, c, e, -, -, hr⟩ := h.c.row
  injection e with e _ _
  subst e
  have := (IRow.at (i := C.length) (x := mkI) hr (by rw [List.getElem?_append_right (Nat.le_refl _)]; simp)).1
  simpa [mkI] using this
theorem LnP.markE (h : LnP w B gC cC gE cE C E) : w.cell? ⟨gE, E.length, none⟩ = some (.int .i64 (-902)) := by
  obtain ⟨a, c, e, hr, -, -⟩ := h.e.row
  injection e with e _ _
  subst e
  obtain ⟨b, o, e1, -, hc⟩ := hr.open (by rw [List.length_append]; simp)
  injection e1 with e1
  injection e1 with e1 e2 _
  subst e1 e2
  have := hc E.length (by rw [List.length_append]; simp)
  rw [Nat.zero_add] at this
  rw [this]
  simp [List.getD]
end
/-- What Lend answers. -/
def LeTo (enc : Bool) (C : List In) (E : List Int) (w : World) (e : Ending) (w' : World) : Prop := ∃ gC cC gE cE, e = .returned (.agg #[.bool enc, .slice (some ⟨gC, 0, none⟩) C.length cC, .slice (some ⟨gE, 0, none⟩) E.length cE]) ∧ Hid (LnP w' w.heap.size gC cC gE cE C E) ∧ Hid (Below w.heap.size w w')
set_option maxRecDepth 100000 in
set_option maxHeartbeats 8000000 in
theorem lend_any (enc : Bool) (ac ae : Option Addr) (cc ce : Nat) (C : List In) (E : List Int) (w : World) (hCl : C.length ≤ 1000000) (hEl : E.length ≤ 1000000) (hcn : ac = none → cc = 0) (hen : ae = none → ce = 0) (hr : Hid (IRow w ac C)) (he : Hid (Row .i64 w ae E)) :
    Calls Tryd.prog 41 #[.agg #[.bool enc, .slice ac C.length cc, .slice ae E.length ce]] w fun e w' => LeTo enc C E w e w' := by
  have hB := below2 w (.cells #[.bool enc, .slice ac C.length cc, .slice ae E.length ce] 25) (.cells #[.bool false, .slice none 0 0, .slice none 0 0] 25)
  obtain ⟨k1, k2⟩ := blk2 w #[.bool enc, .slice ac C.length cc, .slice ae E.length ce] #[.bool false, .slice none 0 0, .slice none 0 0] 25 25
  obtain ⟨w0, hw0⟩ : ∃ wx, wx = (w.alloc (.cells #[.bool enc, .slice ac C.length cc, .slice ae E.length ce] 25)).alloc (.cells #[.bool false, .slice none 0 0, .slice none 0 0] 25) := ⟨_, rfl⟩
  rw [← hw0] at hB k1 k2
  have HB0 := hide_ hB
  obtain ⟨v1, w1, gC, cC, w2, hr1, hr2, hC2, hb2, hcC⟩ := leC w0 ac cc C (hr.out.later hB) hcn hCl
  obtain ⟨v3, w3, gE, cE, w4, hr3, hr4, hE4, hb4, hcE⟩ := leE w2 ae ce E ((he.out.later hB).later hb2) hen hEl
  have K1 := hide_ ((k1.later hb2).later hb4)
  have K2 := hide_ ((k2.later hb2).later hb4)
  have q1 := k1.cell 1
  have q2 := (k1.later hb2).cell 2
  simp at q1 q2
  have HR1 := hide_ hr1
  have HR2 := hide_ hr2
  have HR3 := hide_ hr3
  have HR4 := hide_ hr4
  have HB4 := hide_ (below_to hB (below_to hb2 hb4))
  have HLn : Hid (LnP w4 w.heap.size gC cC gE cE C E) := hide_ ⟨own_base (hC2.later hb4) hB.size, own_base hE4 (Nat.le_trans hB.size hb2.size), hcC, hcE⟩
  have hcC' : (C.length : Int) ≤ cC := by omega
  have hcE' : (E.length : Int) ≤ cE := by omega
  clear k1 k2 hr1 hr2 hr3 hr4 hC2 hE4 hb2 hb4 hB
  go_enter Tryd.func41, Tryd.ntmps41
  go_upto_region 1 with fail
  rw [← hw0]
  clear hw0
  go_upto_region 3 with (first
    | (at_builtin; have _t := HR1; refine wpList_append_run rfl (.const (.slice none 0 0)) (.tmp 6) 22 22 rfl rfl rfl HR1.out ?_; clear HR1)
    | (at_builtin; have _t := HR2; refine wpList_append_run rfl (.tmp 7) (.tmp 9) 22 22 rfl rfl rfl HR2.out ?_; clear HR2 q1)
    | (at_builtin; have _t := HR3; refine wpList_append_run rfl (.const (.slice none 0 0)) (.tmp 12) 23 23 rfl rfl rfl HR3.out ?_; clear HR3)
    | (at_builtin; have _t := HR4; refine wpList_append_run rfl (.tmp 13) (.tmp 14) 23 23 rfl rfl rfl HR4.out ?_; clear HR4 q2))
  have HSS : Hid (∀ w', Below w4.heap.size w4 w' → (fun w' => w'.cell? ⟨w.heap.size, 0, none⟩ = some (.bool enc) ∧ w'.cell? ⟨w.heap.size, 1, none⟩ = some (.slice ac C.length cc) ∧ w'.cell? ⟨w.heap.size, 2, none⟩ = some (.slice ae E.length ce)) w') := hide_ (fun w' hb => ⟨(K1.out.later hb).cell 0, (K1.out.later hb).cell 1, (K1.out.later hb).cell 2⟩)
  refine wp_region_last 13 (fun w' => w'.cell? ⟨w.heap.size, 0, none⟩ = some (.bool enc) ∧ w'.cell? ⟨w.heap.size, 1, none⟩ = some (.slice ac C.length cc) ∧ w'.cell? ⟨w.heap.size, 2, none⟩ = some (.slice ae E.length ce)) (by kernel_rfl) (HSS.out _ ((Below.refl w4.heap.size w4).drew)) (fun hHeld => ?_)
  refine wpAnyF_take [13] (by kernel_rfl) (i := 0) (v := ?vl1) rfl (by kernel_rfl) (by kernel_rfl) (by kernel_rfl) (fun _ _ _ h => h) (Or.inl ⟨by kernel_rfl, ?hyl1⟩) hHeld ?restl1
  case hyl1 => intro w' hSw; (try dsimp only at hSw); go_simp; try with_reducible rfl
  simp only [Act.put]
  try dsimp only
  refine wpAnyF_take [13] (by kernel_rfl) (i := 1) (v := ?vl2) rfl (by kernel_rfl) (by kernel_rfl) (by kernel_rfl) (fun _ _ _ h => h) (Or.inl ⟨by kernel_rfl, ?hyl2⟩) hHeld ?restl2
  case hyl2 => intro w' hSw; (try dsimp only at hSw); go_simp; try with_reducible rfl
  simp only [Act.put]
  try dsimp only
  refine wpAnyF_take [13] (by kernel_rfl) (i := 2) (v := ?vl3) rfl (by kernel_rfl) (by kernel_rfl) (by kernel_rfl) (fun _ _ _ h => h) (Or.inl ⟨by kernel_rfl, ?hyl3⟩) hHeld ?restl3
  case hyl3 => intro w' hSw; (try dsimp only at hSw); go_simp; try with_reducible rfl
  simp only [Act.put]
  try dsimp only
  refine wpAnyF_take [13] (by kernel_rfl) (i := 3) (v := ?vl4) rfl (by kernel_rfl) (by kernel_rfl) (by kernel_rfl) (fun _ _ _ h => h) (Or.inl ⟨by kernel_rfl, ?hyl4⟩) hHeld ?restl4
  case hyl4 => intro w' hSw; (try dsimp only at hSw); go_simp; try with_reducible rfl
  simp only [Act.put]
  try dsimp only
  refine wpAnyF_take [13] (by kernel_rfl) (i := 4) (v := ?vl5) rfl (by kernel_rfl) (by kernel_rfl) (by kernel_rfl) (fun _ _ _ h => h) (Or.inl ⟨by kernel_rfl, ?hyl5⟩) hHeld ?restl5
  case hyl5 => intro w' hSw; (try dsimp only at hSw); go_simp; try with_reducible rfl
  simp only [Act.put]
  try dsimp only
  refine wpAnyF_take [13] (by kernel_rfl) (i := 5) (v := ?vl6) rfl (by kernel_rfl) (by kernel_rfl) (by kernel_rfl) (fun _ _ _ h => h) (Or.inl ⟨by kernel_rfl, ?hyl6⟩) hHeld ?restl6
  case hyl6 => intro w' hSw; (try dsimp only at hSw); go_simp; try with_reducible rfl
  simp only [Act.put]
  try dsimp only
  refine wpAnyF_take [13] (by kernel_rfl) (i := 6) (v := ?vl7) rfl (by kernel_rfl) (by kernel_rfl) (by kernel_rfl) (fun _ _ _ h => h) (Or.inl ⟨by kernel_rfl, ?hyl7⟩) hHeld ?restl7
  case hyl7 => intro w' hSw; (try dsimp only at hSw); go_simp; try with_reducible rfl
  simp only [Act.put]
  try dsimp only
  refine wpAnyF_take [13] (by kernel_rfl) (i := 7) (v := ?vl8) rfl (by kernel_rfl) (by kernel_rfl) (by kernel_rfl) (fun _ _ _ h => h) (Or.inl ⟨by kernel_rfl, ?hyl8⟩) hHeld ?restl8
  case hyl8 => intro w' hSw; (try dsimp only at hSw); go_simp; try with_reducible rfl
  simp only [Act.put]
  try dsimp only
  refine wpAnyF_take [13] (by kernel_rfl) (i := 8) (v := ?vl9) rfl (by kernel_rfl) (by kernel_rfl) (by kernel_rfl) (fun _ _ _ h => h) (Or.inl ⟨by kernel_rfl, ?hyl9⟩) hHeld ?restl9
  case hyl9 => intro w' hSw; (try dsimp only at hSw); go_simp; try with_reducible rfl
  simp only [Act.put]
  try dsimp only
  refine wpAnyF_take [13] (by kernel_rfl) (i := 9) (v := ?vl10) rfl (by kernel_rfl) (by kernel_rfl) (by kernel_rfl) (fun _ _ _ h => h) (Or.inl ⟨by kernel_rfl, ?hyl10⟩) hHeld ?restl10
  case hyl10 => intro w' hSw; (try dsimp only at hSw); go_simp; try with_reducible rfl
  simp only [Act.put]
  try dsimp only
  refine wpAnyF_take [13] (by kernel_rfl) (i := 10) (v := ?vl11) rfl (by kernel_rfl) (by kernel_rfl) (by kernel_rfl) (fun _ _ _ h => h) (Or.inl ⟨by kernel_rfl, ?hyl11⟩) hHeld ?restl11
  case hyl11 => intro w' hSw; (try dsimp only at hSw); go_simp; try with_reducible rfl
  simp only [Act.put]
  try dsimp only
  refine wpAnyF_take [13] (by kernel_rfl) (i := 11) (v := ?vl12) rfl (by kernel_rfl) (by kernel_rfl) (by kernel_rfl) (fun _ _ _ h => h) (Or.inl ⟨by kernel_rfl, ?hyl12⟩) hHeld ?restl12
  case hyl12 => intro w' hSw; (try dsimp only at hSw); go_simp; try with_reducible rfl
  simp only [Act.put]
  try dsimp only
  refine wpAnyF_take [13] (by kernel_rfl) (i := 12) (v := ?vl13) rfl (by kernel_rfl) (by kernel_rfl) (by kernel_rfl) (fun _ _ _ h => h) (Or.inl ⟨by kernel_rfl, ?hyl13⟩) hHeld ?restl13
  case hyl13 => intro w' hSw; (try dsimp only at hSw); go_simp; try with_reducible rfl
  simp only [Act.put]
  try dsimp only
  refine wpAnyF_ready (rs := [13]) (by kernel_rfl) (by simp) ?_
  refine AllReadyF.last rfl (fun K hK => ?_)
  have KD := hide_ (K2.out.later ((Below.refl w4.heap.size w4).drew))
  have z0 := K2.out.cell 0; have z1 := K2.out.cell 1; have z2 := K2.out.cell 2
  have zf := fun i => K2.out.frozen i
  simp at z0 z1 z2
  go_simp
  refine hK.out _ _ ?_
  clear hK K
  refine wpAnyF_done (by kernel_rfl) ?_ _
  have KZ := hide_ (setP KD.out (.bool enc) (.slice (some ⟨gC, 0, none⟩) C.length cC) (.slice (some ⟨gE, 0, none⟩) E.length cE))
  have HBz := hide_ (below_set (below_set (below_set (below_to HB4.out ((Below.refl w4.heap.size w4).drew)) (w.heap.size + 1) 0 (.bool enc) (by omega)) (w.heap.size + 1) 1 (.slice (some ⟨gC, 0, none⟩) C.length cC) (by omega)) (w.heap.size + 1) 2 (.slice (some ⟨gE, 0, none⟩) E.length cE) (by omega))
  have HLz := hide_ ((HLn.out.later ((Below.refl w4.heap.size w4).drew)).upd ((((Upd.refl (fun k => k = w.heap.size + 1) w4.drew).set ⟨w.heap.size + 1, 0, none⟩ (.bool enc) (.inl rfl)).set ⟨w.heap.size + 1, 1, none⟩ (.slice (some ⟨gC, 0, none⟩) C.length cC) (.inl rfl)).set ⟨w.heap.size + 1, 2, none⟩ (.slice (some ⟨gE, 0, none⟩) E.length cE) (.inl rfl)) (fun e => notC (HLn.out.later ((Below.refl w4.heap.size w4).drew)).c KD.out (by decide) (by rw [← e]; rfl)) (fun e => notI (HLn.out.later ((Below.refl w4.heap.size w4).drew)).e KD.out (by decide) (by rw [← e]; rfl)))
  clear hHeld z0 z1 z2 zf
  go_wp2
  exact retP rfl rfl KZ.out ⟨gC, cC, gE, cE, rfl, HLz, HBz⟩
set_option maxRecDepth 100000 in
set_option maxHeartbeats 8000000 in
theorem kept_yes (enc : Bool) (gC cC gE cE B : Nat) (ac ae : Option Addr) (cc ce : Nat) (C : List In) (E : List Int) (w : World) (hCl : C.length ≤ 1000000) (hEl : E.length ≤ 1000000) (hL : Hid (LnP w B gC cC gE cE C E)) (hr : Hid (IRow w ac C)) (he : Hid (Row .i64 w ae E)) :
    Calls Tryd.prog 18 #[.agg #[.bool enc, .slice (some ⟨gC, 0, none⟩) C.length cC, .slice (some ⟨gE, 0, none⟩) E.length cE], .agg #[.bool enc, .slice ac C.length cc, .slice ae E.length ce]] w fun e w' => e = .returned (.bool true) ∧ Below w.heap.size w w' := by
  have hB := below2 w (.cells #[.bool enc, .slice (some ⟨gC, 0, none⟩) C.length cC, .slice (some ⟨gE, 0, none⟩) E.length cE] 25) (.cells #[.bool enc, .slice ac C.length cc, .slice ae E.length ce] 25)
  obtain ⟨k1, k2⟩ := blk2 w #[.bool enc, .slice (some ⟨gC, 0, none⟩) C.length cC, .slice (some ⟨gE, 0, none⟩) E.length cE] #[.bool enc, .slice ac C.length cc, .slice ae E.length ce] 25 25
  obtain ⟨w0, hw0⟩ : ∃ wx, wx = (w.alloc (.cells #[.bool enc, .slice (some ⟨gC, 0, none⟩) C.length cC, .slice (some ⟨gE, 0, none⟩) E.length cE] 25)).alloc (.cells #[.bool enc, .slice ac C.length cc, .slice ae E.length ce] 25) := ⟨_, rfl⟩
  rw [← hw0] at hB k1 k2
  have HB0 := hide_ hB
  have K1 := hide_ k1
  have K2 := hide_ k2
  have HL0 := hide_ (hL.out.later hB)
  have HEq : Hid (∀ w', Below w0.heap.size w0 w' → Calls Tryd.prog 47 #[.agg #[.bool enc, .slice (some ⟨gC, 0, none⟩) C.length cC, .slice (some ⟨gE, 0, none⟩) E.length cE], .agg #[.bool enc, .slice ac C.length cc, .slice ae E.length ce]] w' fun e w'' => e = .returned (.bool true) ∧ Below w'.heap.size w' w'') := hide_ (fun w' hb => by
    have h := requal_any enc enc (some ⟨gC, 0, none⟩) ac (some ⟨gE, 0, none⟩) ae cC cc cE ce C C E E w' (by omega) (by omega) (by omega) (by omega) (hide_ (HL0.out.later hb).rowC) (hide_ (hr.out.later (below_to HB0.out hb))) (hide_ (HL0.out.later hb).rowE) (hide_ (he.out.later (below_to HB0.out hb)))
    rw [eqP_iff.2 ⟨rfl, rfl, rfl⟩] at h
    exact h)
  have hcC : C.length + 1 ≤ cC := hL.out.cc
  have hcE : E.length + 1 ≤ cE := hL.out.ce
  have HSS : Hid (∀ w', Below w0.heap.size w0 w' → (fun w' => w'.cell? ⟨w.heap.size, 0, none⟩ = some (.bool enc) ∧ w'.cell? ⟨w.heap.size, 1, none⟩ = some (.slice (some ⟨gC, 0, none⟩) C.length cC) ∧ w'.cell? ⟨w.heap.size, 2, none⟩ = some (.slice (some ⟨gE, 0, none⟩) E.length cE) ∧ w'.cell? ⟨w.heap.size + 1, 0, none⟩ = some (.bool enc) ∧ w'.cell? ⟨w.heap.size + 1, 1, none⟩ = some (.slice ac C.length cc) ∧ w'.cell? ⟨w.heap.size + 1, 2, none⟩ = some (.slice ae E.length ce) ∧ w'.cell? ⟨gC, C.length * 4, none⟩ = some (.int .i64 (-901)) ∧ w'.cell? ⟨gE, E.length, none⟩ = some (.int .i64 (-902))) w') := hide_ (fun w' hb => ⟨(K1.out.later hb).cell 0, (K1.out.later hb).cell 1, (K1.out.later hb).cell 2, (K2.out.later hb).cell 0, (K2.out.later hb).cell 1, (K2.out.later hb).cell 2, (HL0.out.later hb).markC, (HL0.out.later hb).markE⟩)
  generalize C.length = nC at *
  generalize E.length = nE at *
  have hcC' : (nC : Int) + 1 ≤ cC := by omega
  have hcE' : (nE : Int) + 1 ≤ cE := by omega
  have hC0 : (0 : Int) ≤ (nC : Int) + 1 := by omega
  have hE0 : (0 : Int) ≤ (nE : Int) + 1 := by omega
  have hw1 : wrap64 ((nC : Int) + 1) = (nC : Int) + 1 := w64 _ (by omega)
  have hw2 : wrap64 ((nE : Int) + 1) = (nE : Int) + 1 := w64 _ (by omega)
  have hi1 : IntKind.i64.wrap ((nC : Int) + 1) = (nC : Int) + 1 := by rw [IntKind.wrap_i64]; omega
  have hi2 : IntKind.i64.wrap ((nE : Int) + 1) = (nE : Int) + 1 := by rw [IntKind.wrap_i64]; omega
  have hl1 : (nC : Int) < (nC : Int) + 1 := by omega
  have hl2 : (nE : Int) < (nE : Int) + 1 := by omega
  clear hB k1 k2
  go_enter Tryd.func18, Tryd.ntmps18
  go_upto_region 1 with fail
  rw [← hw0]
  clear hw0
  refine wp_region_last 34 (fun w' => w'.cell? ⟨w.heap.size, 0, none⟩ = some (.bool enc) ∧ w'.cell? ⟨w.heap.size, 1, none⟩ = some (.slice (some ⟨gC, 0, none⟩) nC cC) ∧ w'.cell? ⟨w.heap.size, 2, none⟩ = some (.slice (some ⟨gE, 0, none⟩) nE cE) ∧ w'.cell? ⟨w.heap.size + 1, 0, none⟩ = some (.bool enc) ∧ w'.cell? ⟨w.heap.size + 1, 1, none⟩ = some (.slice ac nC cc) ∧ w'.cell? ⟨w.heap.size + 1, 2, none⟩ = some (.slice ae nE ce) ∧ w'.cell? ⟨gC, nC * 4, none⟩ = some (.int .i64 (-901)) ∧ w'.cell? ⟨gE, nE, none⟩ = some (.int .i64 (-902))) (by kernel_rfl) (HSS.out _ ((Below.refl w0.heap.size w0).drew)) (fun hHeld => ?_)
  refine wpAnyF_take [34] (by kernel_rfl) (i := 0) (v := ?vk1) rfl (by kernel_rfl) (by kernel_rfl) (by kernel_rfl) (fun _ _ _ h => h) (Or.inl ⟨by kernel_rfl, ?hyk1⟩) hHeld ?restk1
  case hyk1 => intro w' hSw; (try dsimp only at hSw); go_simp; try with_reducible rfl
  simp only [Act.put]
  try dsimp only
  refine wpAnyF_take [34] (by kernel_rfl) (i := 1) (v := ?vk2) rfl (by kernel_rfl) (by kernel_rfl) (by kernel_rfl) (fun _ _ _ h => h) (Or.inl ⟨by kernel_rfl, ?hyk2⟩) hHeld ?restk2
  case hyk2 => intro w' hSw; (try dsimp only at hSw); go_simp; try with_reducible rfl
  simp only [Act.put]
  try dsimp only
  refine wpAnyF_ready (rs := [2]) (by kernel_rfl) (by simp) ?_
  refine AllReadyF.cons rfl (fun K hK => ?_) AllReadyF.nil
  go_simp
  refine (HEq.out _ ((Below.refl w0.heap.size w0).drew)).mono ?_
  rintro e wO ⟨rfl, hbO⟩
  dsimp only
  have HX := hide_ (below_to ((Below.refl w0.heap.size w0).drew) hbO)
  clear hbO
  refine hK.out _ _ (HSS.out _ HX.out) (fun hHeld => ?_)
  clear hK K
  refine wpAnyF_take [34] (by kernel_rfl) (i := 3) (v := ?vk3) rfl (by kernel_rfl) (by kernel_rfl) (by kernel_rfl) (fun _ _ _ h => h) (Or.inl ⟨by kernel_rfl, ?hyk3⟩) hHeld ?restk3
  case hyk3 => intro w' hSw; (try dsimp only at hSw); go_simp; try with_reducible rfl
  simp only [Act.put]
  try dsimp only
  refine wpAnyF_take [34] (by kernel_rfl) (i := 4) (v := ?vk4) rfl (by kernel_rfl) (by kernel_rfl) (by kernel_rfl) (fun _ _ _ h => h) (Or.inl ⟨by kernel_rfl, ?hyk4⟩) hHeld ?restk4
  case hyk4 => intro w' hSw; (try dsimp only at hSw); go_simp; try with_reducible rfl
  simp only [Act.put]
  try dsimp only
  refine wpAnyF_take [34] (by kernel_rfl) (i := 5) (v := ?vk5) rfl (by kernel_rfl) (by kernel_rfl) (by kernel_rfl) (fun _ _ _ h => h) (Or.inl ⟨by kernel_rfl, ?hyk5⟩) hHeld ?restk5
  case hyk5 => intro w' hSw; (try dsimp only at hSw); go_simp; try with_reducible rfl
  simp only [Act.put]
  try dsimp only
  refine wpAnyF_take [34] (by kernel_rfl) (i := 6) (v := ?vk6) rfl (by kernel_rfl) (by kernel_rfl) (by kernel_rfl) (fun _ _ _ h => h) (Or.inl ⟨by kernel_rfl, ?hyk6⟩) hHeld ?restk6
  case hyk6 => intro w' hSw; (try dsimp only at hSw); go_simp; try with_reducible rfl
  simp only [Act.put]
  try dsimp only
  refine wpAnyF_take [34] (by kernel_rfl) (i := 7) (v := ?vk7) rfl (by kernel_rfl) (by kernel_rfl) (by kernel_rfl) (fun _ _ _ h => h) (Or.inl ⟨by kernel_rfl, ?hyk7⟩) hHeld ?restk7
  case hyk7 => intro w' hSw; (try dsimp only at hSw); go_simp; try with_reducible rfl
  simp only [Act.put]
  try dsimp only
  refine wpAnyF_take [34] (by kernel_rfl) (i := 8) (v := ?vk8) rfl (by kernel_rfl) (by kernel_rfl) (by kernel_rfl) (fun _ _ _ h => h) (Or.inl ⟨by kernel_rfl, ?hyk8⟩) hHeld ?restk8
  case hyk8 => intro w' hSw; (try dsimp only at hSw); go_simp; try with_reducible rfl
  simp only [Act.put]
  try dsimp only
  refine wpAnyF_take [34] (by kernel_rfl) (i := 9) (v := ?vk9) rfl (by kernel_rfl) (by kernel_rfl) (by kernel_rfl) (fun _ _ _ h => h) (Or.inl ⟨by kernel_rfl, ?hyk9⟩) hHeld ?restk9
  case hyk9 => intro w' hSw; (try dsimp only at hSw); go_simp; try with_reducible rfl
  simp only [Act.put]
  try dsimp only
  refine wpAnyF_take [34] (by kernel_rfl) (i := 10) (v := ?vk10) rfl (by kernel_rfl) (by kernel_rfl) (by kernel_rfl) (fun _ _ _ h => h) (Or.inl ⟨by kernel_rfl, ?hyk10⟩) hHeld ?restk10
  case hyk10 => intro w' hSw; (try dsimp only at hSw); go_simp; try with_reducible rfl
  simp only [Act.put]
  try dsimp only
  refine wpAnyF_take [34] (by kernel_rfl) (i := 11) (v := ?vk11) rfl (by kernel_rfl) (by kernel_rfl) (by kernel_rfl) (fun _ _ _ h => h) (Or.inl ⟨by kernel_rfl, ?hyk11⟩) hHeld ?restk11
  case hyk11 => intro w' hSw; (try dsimp only at hSw); go_simp; try with_reducible rfl
  simp only [Act.put]
  try dsimp only
  refine wpAnyF_take [34] (by kernel_rfl) (i := 12) (v := ?vk12) rfl (by kernel_rfl) (by kernel_rfl) (by kernel_rfl) (fun _ _ _ h => h) (Or.inl ⟨by kernel_rfl, ?hyk12⟩) hHeld ?restk12
  case hyk12 => intro w' hSw; (try dsimp only at hSw); go_simp; try with_reducible rfl
  simp only [Act.put]
  try dsimp only
  refine wpAnyF_take [34] (by kernel_rfl) (i := 13) (v := ?vk13) rfl (by kernel_rfl) (by kernel_rfl) (by kernel_rfl) (fun _ _ _ h => h) (Or.inl ⟨by kernel_rfl, ?hyk13⟩) hHeld ?restk13
  case hyk13 => intro w' hSw; (try dsimp only at hSw); go_simp; try with_reducible rfl
  simp only [Act.put]
  try dsimp only
  refine wpAnyF_take [34] (by kernel_rfl) (i := 14) (v := ?vk14) rfl (by kernel_rfl) (by kernel_rfl) (by kernel_rfl) (fun _ _ _ h => h) (Or.inl ⟨by kernel_rfl, ?hyk14⟩) hHeld ?restk14
  case hyk14 => intro w' hSw; (try dsimp only at hSw); go_simp; try with_reducible rfl
  simp only [Act.put]
  try dsimp only
  refine wpAnyF_take [34] (by kernel_rfl) (i := 15) (v := ?vk15) rfl (by kernel_rfl) (by kernel_rfl) (by kernel_rfl) (fun _ _ _ h => h) (Or.inl ⟨by kernel_rfl, ?hyk15⟩) hHeld ?restk15
  case hyk15 => intro w' hSw; (try dsimp only at hSw); go_simp; try with_reducible rfl
  simp only [Act.put]
  try dsimp only
  refine wpAnyF_take [34] (by kernel_rfl) (i := 16) (v := ?vk16) rfl (by kernel_rfl) (by kernel_rfl) (by kernel_rfl) (fun _ _ _ h => h) (Or.inl ⟨by kernel_rfl, ?hyk16⟩) hHeld ?restk16
  case hyk16 => intro w' hSw; (try dsimp only at hSw); go_simp; try with_reducible rfl
  simp only [Act.put]
  try dsimp only
  refine wpAnyF_take [34] (by kernel_rfl) (i := 17) (v := ?vk17) rfl (by kernel_rfl) (by kernel_rfl) (by kernel_rfl) (fun _ _ _ h => h) (Or.inl ⟨by kernel_rfl, ?hyk17⟩) hHeld ?restk17
  case hyk17 => intro w' hSw; (try dsimp only at hSw); go_simp; try with_reducible rfl
  simp only [Act.put]
  try dsimp only
  refine wpAnyF_take [34] (by kernel_rfl) (i := 18) (v := ?vk18) rfl (by kernel_rfl) (by kernel_rfl) (by kernel_rfl) (fun _ _ _ h => h) (Or.inl ⟨by kernel_rfl, ?hyk18⟩) hHeld ?restk18
  case hyk18 => intro w' hSw; (try dsimp only at hSw); go_simp; try with_reducible rfl
  simp only [Act.put]
  try dsimp only
  refine wpAnyF_take [34] (by kernel_rfl) (i := 19) (v := ?vk19) rfl (by kernel_rfl) (by kernel_rfl) (by kernel_rfl) (fun _ _ _ h => h) (Or.inl ⟨by kernel_rfl, ?hyk19⟩) hHeld ?restk19
  case hyk19 => intro w' hSw; (try dsimp only at hSw); go_simp; try with_reducible rfl
  simp only [Act.put]
  try dsimp only
  refine wpAnyF_take [34] (by kernel_rfl) (i := 20) (v := ?vk20) rfl (by kernel_rfl) (by kernel_rfl) (by kernel_rfl) (fun _ _ _ h => h) (Or.inl ⟨by kernel_rfl, ?hyk20⟩) hHeld ?restk20
  case hyk20 => intro w' hSw; (try dsimp only at hSw); go_simp; try with_reducible rfl
  simp only [Act.put]
  try dsimp only
  refine wpAnyF_take [34] (by kernel_rfl) (i := 21) (v := ?vk21) rfl (by kernel_rfl) (by kernel_rfl) (by kernel_rfl) (fun _ _ _ h => h) (Or.inl ⟨by kernel_rfl, ?hyk21⟩) hHeld ?restk21
  case hyk21 => intro w' hSw; (try dsimp only at hSw); go_simp; try with_reducible rfl
  simp only [Act.put]
  try dsimp only
  refine wpAnyF_take [34] (by kernel_rfl) (i := 22) (v := ?vk22) rfl (by kernel_rfl) (by kernel_rfl) (by kernel_rfl) (fun _ _ _ h => h) (Or.inl ⟨by kernel_rfl, ?hyk22⟩) hHeld ?restk22
  case hyk22 => intro w' hSw; (try dsimp only at hSw); go_simp; try with_reducible rfl
  simp only [Act.put]
  try dsimp only
  refine wpAnyF_take [34] (by kernel_rfl) (i := 23) (v := ?vk23) rfl (by kernel_rfl) (by kernel_rfl) (by kernel_rfl) (fun _ _ _ h => h) (Or.inl ⟨by kernel_rfl, ?hyk23⟩) hHeld ?restk23
  case hyk23 => intro w' hSw; (try dsimp only at hSw); go_simp; try with_reducible rfl
  simp only [Act.put]
  try dsimp only
  refine wpAnyF_take [34] (by kernel_rfl) (i := 24) (v := ?vk24) rfl (by kernel_rfl) (by kernel_rfl) (by kernel_rfl) (fun _ _ _ h => h) (Or.inl ⟨by kernel_rfl, ?hyk24⟩) hHeld ?restk24
  case hyk24 => intro w' hSw; (try dsimp only at hSw); go_simp; try with_reducible rfl
  simp only [Act.put]
  try dsimp only
  refine wpAnyF_take [34] (by kernel_rfl) (i := 25) (v := ?vk25) rfl (by kernel_rfl) (by kernel_rfl) (by kernel_rfl) (fun _ _ _ h => h) (Or.inl ⟨by kernel_rfl, ?hyk25⟩) hHeld ?restk25
  case hyk25 => intro w' hSw; (try dsimp only at hSw); go_simp; try with_reducible rfl
  simp only [Act.put]
  try dsimp only
  refine wpAnyF_take [34] (by kernel_rfl) (i := 26) (v := ?vk26) rfl (by kernel_rfl) (by kernel_rfl) (by kernel_rfl) (fun _ _ _ h => h) (Or.inl ⟨by kernel_rfl, ?hyk26⟩) hHeld ?restk26
  case hyk26 => intro w' hSw; (try dsimp only at hSw); go_simp; try with_reducible rfl
  simp only [Act.put]
  try dsimp only
  refine wpAnyF_take [34] (by kernel_rfl) (i := 27) (v := ?vk27) rfl (by kernel_rfl) (by kernel_rfl) (by kernel_rfl) (fun _ _ _ h => h) (Or.inl ⟨by kernel_rfl, ?hyk27⟩) hHeld ?restk27
  case hyk27 => intro w' hSw; (try dsimp only at hSw); go_simp; try with_reducible rfl
  simp only [Act.put]
  try dsimp only
  refine wpAnyF_take [34] (by kernel_rfl) (i := 28) (v := ?vk28) rfl (by kernel_rfl) (by kernel_rfl) (by kernel_rfl) (fun _ _ _ h => h) (Or.inl ⟨by kernel_rfl, ?hyk28⟩) hHeld ?restk28
  case hyk28 => intro w' hSw; (try dsimp only at hSw); go_simp; try with_reducible rfl
  simp only [Act.put]
  try dsimp only
  refine wpAnyF_take [34] (by kernel_rfl) (i := 29) (v := ?vk29) rfl (by kernel_rfl) (by kernel_rfl) (by kernel_rfl) (fun _ _ _ h => h) (Or.inl ⟨by kernel_rfl, ?hyk29⟩) hHeld ?restk29
  case hyk29 => intro w' hSw; (try dsimp only at hSw); go_simp; try with_reducible rfl
  simp only [Act.put]
  try dsimp only
  refine wpAnyF_take [34] (by kernel_rfl) (i := 30) (v := ?vk30) rfl (by kernel_rfl) (by kernel_rfl) (by kernel_rfl) (fun _ _ _ h => h) (Or.inl ⟨by kernel_rfl, ?hyk30⟩) hHeld ?restk30
  case hyk30 => intro w' hSw; (try dsimp only at hSw); go_simp; try with_reducible rfl
  simp only [Act.put]
  try dsimp only
  refine wpAnyF_take [34] (by kernel_rfl) (i := 31) (v := ?vk31) rfl (by kernel_rfl) (by kernel_rfl) (by kernel_rfl) (fun _ _ _ h => h) (Or.inl ⟨by kernel_rfl, ?hyk31⟩) hHeld ?restk31
  case hyk31 => intro w' hSw; (try dsimp only at hSw); go_simp; try with_reducible rfl
  simp only [Act.put]
  try dsimp only
  refine wpAnyF_take [34] (by kernel_rfl) (i := 32) (v := ?vk32) rfl (by kernel_rfl) (by kernel_rfl) (by kernel_rfl) (fun _ _ _ h => h) (Or.inl ⟨by kernel_rfl, ?hyk32⟩) hHeld ?restk32
  case hyk32 => intro w' hSw; (try dsimp only at hSw); go_simp; try with_reducible rfl
  simp only [Act.put]
  try dsimp only
  refine wpAnyF_take [34] (by kernel_rfl) (i := 33) (v := ?vk33) rfl (by kernel_rfl) (by kernel_rfl) (by kernel_rfl) (fun _ _ _ h => h) (Or.inl ⟨by kernel_rfl, ?hyk33⟩) hHeld ?restk33
  case hyk33 => intro w' hSw; (try dsimp only at hSw); go_simp; try with_reducible rfl
  simp only [Act.put]
  try dsimp only
  refine wpAnyF_ready (rs := [34]) (by kernel_rfl) (by simp) ?_
  refine AllReadyF.last rfl (fun K hK => ?_)
  go_simp
  refine hK.out _ _ ?_
  clear hK K
  refine wpAnyF_done (by kernel_rfl) ?_ _
  have HBf := hide_ (below_to HB0.out HX.out)
  clear hHeld
  go_wp2
  go_ret
  exact ⟨rfl, HBf.out⟩
set_option maxRecDepth 100000 in
set_option maxHeartbeats 8000000 in
theorem cut_any (enc : Bool) (ac ae : Option Addr) (cc ce : Nat) (C : List In) (E : List Int) (w : World) (hCl : C.length ≤ 4398046511104) (hEl : E.length ≤ 17592186044416) (hcc : C.length ≤ cc) (hce : E.length ≤ ce) (hcn : ac = none → cc = 0) (hen : ae = none → ce = 0) (hr : Hid (IRow w ac C)) (he : Hid (Row .i64 w ae E)) :
    Calls Tryd.prog 14 #[.agg #[.bool enc, .slice ac C.length cc, .slice ae E.length ce]] w fun e w' => LeTo enc (C.take 400) (E.take 400) w e w' := by
  have hB := below2 w (.cells #[.bool enc, .slice ac C.length cc, .slice ae E.length ce] 25) (.cells #[.bool false, .slice none 0 0, .slice none 0 0] 25)
  obtain ⟨k1, k2⟩ := blk2 w #[.bool enc, .slice ac C.length cc, .slice ae E.length ce] #[.bool false, .slice none 0 0, .slice none 0 0] 25 25
  obtain ⟨w0, hw0⟩ : ∃ wx, wx = (w.alloc (.cells #[.bool enc, .slice ac C.length cc, .slice ae E.length ce] 25)).alloc (.cells #[.bool false, .slice none 0 0, .slice none 0 0] 25) := ⟨_, rfl⟩
  rw [← hw0] at hB k1 k2
  have HB0 := hide_ hB
  have K1 := hide_ k1
  have K2 := hide_ k2
  obtain ⟨mC, hmC⟩ : ∃ m, min C.length 400 = m := ⟨_, rfl⟩
  obtain ⟨mE, hmE⟩ : ∃ m, min E.length 400 = m := ⟨_, rfl⟩
  have hlC : (C.take 400).length = mC := by rw [List.length_take]; omega
  have hlE : (E.take 400).length = mE := by rw [List.length_take]; omega
  have dC : min (C.length : Int) 400 = (mC : Int) := by omega
  have dE : min (E.length : Int) 400 = (mE : Int) := by omega
  have aC : (if (400 : Int) < (C.length : Int) then (400 : Int) else (C.length : Int)) = (mC : Int) := by split <;> omega
  have bC : (if 400 < C.length then (400 : Int) else (C.length : Int)) = (mC : Int) := by split <;> omega
  have aE : (if (400 : Int) < (E.length : Int) then (400 : Int) else (E.length : Int)) = (mE : Int) := by split <;> omega
  have bE : (if 400 < E.length then (400 : Int) else (E.length : Int)) = (mE : Int) := by split <;> omega
  have hcC' : (mC : Int) ≤ cc := by omega
  have hcE' : (mE : Int) ≤ ce := by omega
  have hm1 : (0 : Int) ≤ mC := by omega
  have hm2 : (0 : Int) ≤ mE := by omega
  have HRc := hide_ (hr.out.take 400)
  have HRe : Hid (Row .i64 w ae (E.take 400)) := hide_ (by
    rcases he.out with ⟨h1, h2⟩ | ⟨x, hx, hc⟩
    · exact .inl ⟨h1, by rw [h2]; rfl⟩
    · refine .inr ⟨x, hx, fun i hi => ?_⟩
      rw [List.length_take] at hi
      rw [hc i (by omega)]
      simp [List.getD, show i < 400 by omega])
  have HLe : Hid (∀ w', Below w0.heap.size w0 w' → Calls Tryd.prog 41 #[.agg #[.bool enc, .slice ac mC cc, .slice ae mE ce]] w' fun e w'' => ∃ gC cC gE cE, e = .returned (.agg #[.bool enc, .slice (some ⟨gC, 0, none⟩) mC cC, .slice (some ⟨gE, 0, none⟩) mE cE]) ∧ Hid (LnP w'' w'.heap.size gC cC gE cE (C.take 400) (E.take 400)) ∧ Hid (Below w'.heap.size w' w'')) := hide_ (fun w' hb => by
    have h := lend_any enc ac ae cc ce (C.take 400) (E.take 400) w' (by omega) (by omega) hcn hen (hide_ (HRc.out.later (below_to HB0.out hb))) (hide_ (HRe.out.later (below_to HB0.out hb)))
    unfold LeTo at h
    rw [hlC, hlE] at h
    exact h)
  have HlC := hide_ hlC
  have HlE := hide_ hlE
  have HSS : Hid (∀ w', Below w0.heap.size w0 w' → (fun w' => w'.cell? ⟨w.heap.size, 0, none⟩ = some (.bool enc) ∧ w'.cell? ⟨w.heap.size, 1, none⟩ = some (.slice ac C.length cc) ∧ w'.cell? ⟨w.heap.size, 2, none⟩ = some (.slice ae E.length ce)) w') := hide_ (fun w' hb => ⟨(K1.out.later hb).cell 0, (K1.out.later hb).cell 1, (K1.out.later hb).cell 2⟩)
  clear hB k1 k2 hmC hmE hlC hlE
  go_enter Tryd.func14, Tryd.ntmps14
  go_upto_region 1 with fail
  rw [← hw0]
  clear hw0
  refine wp_region_last 18 (fun w' => w'.cell? ⟨w.heap.size, 0, none⟩ = some (.bool enc) ∧ w'.cell? ⟨w.heap.size, 1, none⟩ = some (.slice ac C.length cc) ∧ w'.cell? ⟨w.heap.size, 2, none⟩ = some (.slice ae E.length ce)) (by kernel_rfl) (HSS.out _ ((Below.refl w0.heap.size w0).drew)) (fun hHeld => ?_)
  refine wpAnyF_take [18] (by kernel_rfl) (i := 0) (v := ?vc1) rfl (by kernel_rfl) (by kernel_rfl) (by kernel_rfl) (fun _ _ _ h => h) (Or.inl ⟨by kernel_rfl, ?hyc1⟩) hHeld ?restc1
  case hyc1 => intro w' hSw; (try dsimp only at hSw); go_simp; try with_reducible rfl
  simp only [Act.put]
  try dsimp only
  refine wpAnyF_take [18] (by kernel_rfl) (i := 1) (v := ?vc2) rfl (by kernel_rfl) (by kernel_rfl) (by kernel_rfl) (fun _ _ _ h => h) (Or.inl ⟨by kernel_rfl, ?hyc2⟩) hHeld ?restc2
  case hyc2 => intro w' hSw; (try dsimp only at hSw); go_simp; try with_reducible rfl
  simp only [Act.put]
  try dsimp only
  refine wpAnyF_take [18] (by kernel_rfl) (i := 2) (v := ?vc3) rfl (by kernel_rfl) (by kernel_rfl) (by kernel_rfl) (fun _ _ _ h => h) (Or.inl ⟨by kernel_rfl, ?hyc3⟩) hHeld ?restc3
  case hyc3 => intro w' hSw; (try dsimp only at hSw); go_simp; try with_reducible rfl
  simp only [Act.put]
  try dsimp only
  refine wpAnyF_take [18] (by kernel_rfl) (i := 3) (v := ?vc4) rfl (by kernel_rfl) (by kernel_rfl) (by kernel_rfl) (fun _ _ _ h => h) (Or.inl ⟨by kernel_rfl, ?hyc4⟩) hHeld ?restc4
  case hyc4 => intro w' hSw; (try dsimp only at hSw); go_simp; try with_reducible rfl
  simp only [Act.put]
  try dsimp only
  refine wpAnyF_take [18] (by kernel_rfl) (i := 4) (v := ?vc5) rfl (by kernel_rfl) (by kernel_rfl) (by kernel_rfl) (fun _ _ _ h => h) (Or.inl ⟨by kernel_rfl, ?hyc5⟩) hHeld ?restc5
  case hyc5 => intro w' hSw; (try dsimp only at hSw); go_simp; try with_reducible rfl
  simp only [Act.put]
  try dsimp only
  refine wpAnyF_take [18] (by kernel_rfl) (i := 5) (v := ?vc6) rfl (by kernel_rfl) (by kernel_rfl) (by kernel_rfl) (fun _ _ _ h => h) (Or.inl ⟨by kernel_rfl, ?hyc6⟩) hHeld ?restc6
  case hyc6 => intro w' hSw; (try dsimp only at hSw); go_simp; try with_reducible rfl
  simp only [Act.put]
  try dsimp only
  refine wpAnyF_take [18] (by kernel_rfl) (i := 6) (v := ?vc7) rfl (by kernel_rfl) (by kernel_rfl) (by kernel_rfl) (fun _ _ _ h => h) (Or.inl ⟨by kernel_rfl, ?hyc7⟩) hHeld ?restc7
  case hyc7 => intro w' hSw; (try dsimp only at hSw); go_simp; try with_reducible rfl
  simp only [Act.put]
  try dsimp only
  refine wpAnyF_take [18] (by kernel_rfl) (i := 7) (v := ?vc8) rfl (by kernel_rfl) (by kernel_rfl) (by kernel_rfl) (fun _ _ _ h => h) (Or.inl ⟨by kernel_rfl, ?hyc8⟩) hHeld ?restc8
  case hyc8 => intro w' hSw; (try dsimp only at hSw); go_simp; try with_reducible rfl
  simp only [Act.put]
  try dsimp only
  refine wpAnyF_take [18] (by kernel_rfl) (i := 8) (v := ?vc9) rfl (by kernel_rfl) (by kernel_rfl) (by kernel_rfl) (fun _ _ _ h => h) (Or.inl ⟨by kernel_rfl, ?hyc9⟩) hHeld ?restc9
  case hyc9 => intro w' hSw; (try dsimp only at hSw); go_simp; try with_reducible rfl
  simp only [Act.put]
  try dsimp only
  refine wpAnyF_take [18] (by kernel_rfl) (i := 9) (v := ?vc10) rfl (by kernel_rfl) (by kernel_rfl) (by kernel_rfl) (fun _ _ _ h => h) (Or.inl ⟨by kernel_rfl, ?hyc10⟩) hHeld ?restc10
  case hyc10 => intro w' hSw; (try dsimp only at hSw); go_simp; try with_reducible rfl
  simp only [Act.put]
  try dsimp only
  refine wpAnyF_take [18] (by kernel_rfl) (i := 10) (v := ?vc11) rfl (by kernel_rfl) (by kernel_rfl) (by kernel_rfl) (fun _ _ _ h => h) (Or.inl ⟨by kernel_rfl, ?hyc11⟩) hHeld ?restc11
  case hyc11 => intro w' hSw; (try dsimp only at hSw); go_simp; try with_reducible rfl
  simp only [Act.put]
  try dsimp only
  refine wpAnyF_take [18] (by kernel_rfl) (i := 11) (v := ?vc12) rfl (by kernel_rfl) (by kernel_rfl) (by kernel_rfl) (fun _ _ _ h => h) (Or.inl ⟨by kernel_rfl, ?hyc12⟩) hHeld ?restc12
  case hyc12 => intro w' hSw; (try dsimp only at hSw); go_simp; try with_reducible rfl
  simp only [Act.put]
  try dsimp only
  refine wpAnyF_take [18] (by kernel_rfl) (i := 12) (v := ?vc13) rfl (by kernel_rfl) (by kernel_rfl) (by kernel_rfl) (fun _ _ _ h => h) (Or.inl ⟨by kernel_rfl, ?hyc13⟩) hHeld ?restc13
  case hyc13 => intro w' hSw; (try dsimp only at hSw); go_simp; try with_reducible rfl
  simp only [Act.put]
  try dsimp only
  refine wpAnyF_take [18] (by kernel_rfl) (i := 13) (v := ?vc14) rfl (by kernel_rfl) (by kernel_rfl) (by kernel_rfl) (fun _ _ _ h => h) (Or.inl ⟨by kernel_rfl, ?hyc14⟩) hHeld ?restc14
  case hyc14 => intro w' hSw; (try dsimp only at hSw); go_simp; try with_reducible rfl
  simp only [Act.put]
  try dsimp only
  refine wpAnyF_take [18] (by kernel_rfl) (i := 14) (v := ?vc15) rfl (by kernel_rfl) (by kernel_rfl) (by kernel_rfl) (fun _ _ _ h => h) (Or.inl ⟨by kernel_rfl, ?hyc15⟩) hHeld ?restc15
  case hyc15 => intro w' hSw; (try dsimp only at hSw); go_simp; try with_reducible rfl
  simp only [Act.put]
  try dsimp only
  refine wpAnyF_take [18] (by kernel_rfl) (i := 15) (v := ?vc16) rfl (by kernel_rfl) (by kernel_rfl) (by kernel_rfl) (fun _ _ _ h => h) (Or.inl ⟨by kernel_rfl, ?hyc16⟩) hHeld ?restc16
  case hyc16 => intro w' hSw; (try dsimp only at hSw); go_simp; try with_reducible rfl
  simp only [Act.put]
  try dsimp only
  refine wpAnyF_take [18] (by kernel_rfl) (i := 16) (v := ?vc17) rfl (by kernel_rfl) (by kernel_rfl) (by kernel_rfl) (fun _ _ _ h => h) (Or.inl ⟨by kernel_rfl, ?hyc17⟩) hHeld ?restc17
  case hyc17 => intro w' hSw; (try dsimp only at hSw); go_simp; try with_reducible rfl
  simp only [Act.put]
  try dsimp only
  refine wpAnyF_ready (rs := [17]) (by kernel_rfl) (by simp) ?_
  refine AllReadyF.cons rfl (fun K hK => ?_) AllReadyF.nil
  go_simp
  refine (HLe.out _ ((Below.refl w0.heap.size w0).drew)).mono ?_
  rintro e wO ⟨gC, cC, gE, cE, rfl, HLn, HbO⟩
  dsimp only
  have HX := hide_ (below_to ((Below.refl w0.heap.size w0).drew) HbO.out)
  refine hK.out _ _ (HSS.out _ HX.out) (fun hHeld => ?_)
  clear hK K
  refine wpAnyF_ready (rs := [18]) (by kernel_rfl) (by simp) ?_
  refine AllReadyF.last rfl (fun K hK => ?_)
  have KD := hide_ (K2.out.later HX.out)
  have z0 := KD.out.cell 0; have z1 := KD.out.cell 1; have z2 := KD.out.cell 2
  have zf := fun i => KD.out.frozen i
  simp at z0 z1 z2
  go_simp
  refine hK.out _ _ ?_
  clear hK K
  refine wpAnyF_done (by kernel_rfl) ?_ _
  have KZ := hide_ (setP KD.out (.bool enc) (.slice (some ⟨gC, 0, none⟩) mC cC) (.slice (some ⟨gE, 0, none⟩) mE cE))
  have HBz := hide_ (below_set (below_set (below_set (below_to HB0.out HX.out) (w.heap.size + 1) 0 (.bool enc) (by omega)) (w.heap.size + 1) 1 (.slice (some ⟨gC, 0, none⟩) mC cC) (by omega)) (w.heap.size + 1) 2 (.slice (some ⟨gE, 0, none⟩) mE cE) (by omega))
  have HL1 : Hid (LnP wO w.heap.size gC cC gE cE (C.take 400) (E.take 400)) := hide_ ⟨own_base HLn.out.c HB0.out.size, own_base HLn.out.e HB0.out.size, HLn.out.cc, HLn.out.ce⟩
  have HLz := hide_ (HL1.out.upd ((((Upd.refl (fun k => k = w.heap.size + 1) wO).set ⟨w.heap.size + 1, 0, none⟩ (.bool enc) (.inl rfl)).set ⟨w.heap.size + 1, 1, none⟩ (.slice (some ⟨gC, 0, none⟩) mC cC) (.inl rfl)).set ⟨w.heap.size + 1, 2, none⟩ (.slice (some ⟨gE, 0, none⟩) mE cE) (.inl rfl)) (fun e => notC HL1.out.c KD.out (by decide) (by rw [← e]; rfl)) (fun e => notI HL1.out.e KD.out (by decide) (by rw [← e]; rfl)))
  clear hHeld z0 z1 z2 zf
  go_wp2
  exact retP rfl rfl KZ.out ⟨gC, cC, gE, cE, by rw [HlC.out, HlE.out], HLz, HBz⟩
end Go.Proofs.YteadmiikenpjeaaDoor
/- CodeExact: exact, and its walk. -/
namespace Go.Proofs.YteadmiikenpjeaaDoor
open Go.RowKit
set_option linter.unusedVariables false

theorem tabB_at {B : Nat} {w w' : World} (h : TabB B w) (hb : Below B w w') (hB : B ≤ w'.heap.size) : TabB w'.heap.size w' := fun w'' h' => h w'' (hb.trans (h'.mono hB))
theorem take400 {α : Type} (l : List α) : (l.take 400).length ≤ 400 := by rw [List.length_take]; omega
theorem encA_len (enc : Bool) (C : List In) (E : List Int) : (encA enc C E).length ≤ 60000000 := by
  unfold encA
  split
  · rename_i h; exact chk_lim (chk_ok.1 h)
  · simp
theorem BOwn.setZ {w : World} {B g n cap i : Nat} {l : List Int} (h : BOwn w B (.slice (some ⟨g, 0, none⟩) n cap) l) (hi : i < l.length) (x : Int) : BOwn (w.setCell ⟨g, i, none⟩ (.int .u8 x)) B (.slice (some ⟨g, 0, none⟩) n cap) (l.set i x) ∧ w.cell? ⟨g, i, none⟩ = some (.int .u8 (l.getD i 0)) ∧ w.frozen? ⟨g, i, none⟩ = false := by
  obtain ⟨g', cap', ys, e, hb, hn, hm, hys, ht, hk⟩ := ownS_blk h (by omega)
  injection e with e1 e2 e3
  injection e1 with e1
  injection e1 with e1 _ _
  subst e1 e2 e3
  have hk2 := hk.set i (.int .u8 x)
  have h2 := ownS_of_blk (B := B) (n := l.length) (c := 1) (cap := cap) hk2 hb (by simp [hys]) hn hm
  have e4 : (ys.set i (.int .u8 x)).take (l.length * 1) = cellsL .u8 (l.set i x) := by
    rw [List.take_set, ht]
    simp [cellsL, List.map_set]
  refine ⟨?_, ?_, hk.frozen i⟩
  · unfold BOwn
    rw [List.length_set, ← e4]
    exact h2
  · rw [hk.cell]
    have e5 : ys[i]? = (cellsL .u8 l)[i]? := by rw [← ht, List.getElem?_take, if_pos (by omega)]
    rw [e5]
    simp [cellsL, List.getD, hi]
/-- What lies in memory at a turn's head. -/
structure XaM (w wr : World) (enc : Bool) (g3 gC cC gE cE hC dC hE dE : Nat) (C : List In) (E : List Int) : Prop where
  own : Blk wr g3 25 [.bool enc, .slice (some ⟨gC, 0, none⟩) C.length cC, .slice (some ⟨gE, 0, none⟩) E.length cE]
  par : Blk wr w.heap.size 25 [.bool enc, .slice (some ⟨hC, 0, none⟩) C.length dC, .slice (some ⟨hE, 0, none⟩) E.length dE]
  lo : LnP wr w.heap.size gC cC gE cE C E
  lp : LnP wr w.heap.size hC dC hE dE C E
  bl : Below w.heap.size w wr
theorem XaM.later {w wr w' : World} {enc : Bool} {g3 gC cC gE cE hC dC hE dE : Nat} {C : List In} {E : List Int} (h : XaM w wr enc g3 gC cC gE cE hC dC hE dE C E) (hB : Below wr.heap.size wr w') : XaM w w' enc g3 gC cC gE cE hC dC hE dE C E :=
  ⟨h.own.later hB, h.par.later hB, h.lo.later hB, h.lp.later hB, below_to h.bl hB⟩
theorem XaM.updB {w wr w' : World} {enc : Bool} {g3 gC cC gE cE hC dC hE dE : Nat} {C : List In} {E : List Int} (h : XaM w wr enc g3 gC cC gE cE hC dC hE dE C E) {g : Nat} {ys : List Value} (hu : Upd (fun k => k = g) wr w') (hb : Blk wr g 5 ys) (hg : w.heap.size ≤ g) : XaM w w' enc g3 gC cC gE cE hC dC hE dE C E := by
  have nC : ∀ {B k c : Nat} {l : List In} {n : Nat}, COwn wr B (.slice (some ⟨k, 0, none⟩) n c) l → ¬ k = g := fun {B k c l n} ho e => by
    subst e
    exact notC ho hb (by decide) rfl
  have nE : ∀ {B k c : Nat} {l : List Int} {n : Nat}, IOwn wr B (.slice (some ⟨k, 0, none⟩) n c) l → ¬ k = g := fun {B k c l n} ho e => by
    subst e
    exact notI ho hb (by decide) rfl
  exact ⟨h.own.upd hu (fun e => absurd (blk_type h.own (e ▸ hb)) (by decide)), h.par.upd hu (fun e => absurd (blk_type h.par (e ▸ hb)) (by decide)), h.lo.upd hu (nC h.lo.c) (nE h.lo.e), h.lp.upd hu (nC h.lp.c) (nE h.lp.e), h.bl.trans (hu.below _ h.bl.size (fun k e => by rw [e]; exact hg))⟩
set_option maxRecDepth 100000 in
set_option maxHeartbeats 16000000 in
theorem exact_any (enc : Bool) (ac ae : Option Addr) (cc ce : Nat) (C0 : List In) (E0 : List Int) (w : World) (hCl : C0.length ≤ 4398046511104) (hEl : E0.length ≤ 17592186044416) (hcc : C0.length ≤ cc) (hce : E0.length ≤ ce) (hcn : ac = none → cc = 0) (hen : ae = none → ce = 0) (hr : Hid (IRow w ac C0)) (he : Hid (Row .i64 w ae E0)) (HT : Hid (TabB w.heap.size w)) :
    Calls Tryd.prog 5 #[.agg #[.bool enc, .slice ac C0.length cc, .slice ae E0.length ce]] w fun e w' => e = .returned (.bool true) ∧ Below w.heap.size w w' := by
  obtain ⟨w1, hw1⟩ : ∃ wx, wx = w.alloc (.cells #[.bool enc, .slice ac C0.length cc, .slice ae E0.length ce] 25) := ⟨_, rfl⟩
  have b1 : Below w.heap.size w w1 := by rw [hw1]; exact below1 _ _
  have k1 : Blk w1 w.heap.size 25 [.bool enc, .slice ac C0.length cc, .slice ae E0.length ce] := by rw [hw1]; exact Blk.newA w _ _
  have K1 := hide_ k1
  have HB1 := hide_ b1
  have HCu : Hid (∀ w', Below w1.heap.size w1 w' → Calls Tryd.prog 14 #[.agg #[.bool enc, .slice ac C0.length cc, .slice ae E0.length ce]] w' fun e w'' => LeTo enc (C0.take 400) (E0.take 400) w' e w'') := hide_ (fun w' hb => cut_any enc ac ae cc ce C0 E0 w' hCl hEl hcc hce hcn hen (hide_ (hr.out.later (below_to HB1.out hb))) (hide_ (he.out.later (below_to HB1.out hb))))
  have hC4 := take400 C0
  have hE4 := take400 E0
  generalize C0.take 400 = C at *
  generalize E0.take 400 = E at *
  have i0 := k1.cell 0; have i1 := k1.cell 1; have i2 := k1.cell 2
  simp at i0 i1 i2
  clear b1 k1
  go_enter Tryd.func5, Tryd.ntmps5
  go_upto_region 1 with fail
  rw [← hw1]
  clear hw1
  go_wp2_with fail
  refine (HCu.out w1 (Below.refl _ _)).mono ?_
  rintro e w2 ⟨gC, cC, gE, cE, rfl, HL2, HB2⟩
  obtain ⟨w3, hw3⟩ : ∃ wx, wx = w2.alloc (.cells #[.bool enc, .slice (some ⟨gC, 0, none⟩) C.length cC, .slice (some ⟨gE, 0, none⟩) E.length cE] 25) := ⟨_, rfl⟩
  have b3 : Below w2.heap.size w2 w3 := by rw [hw3]; exact below1 _ _
  have k3 : Blk w3 w2.heap.size 25 [.bool enc, .slice (some ⟨gC, 0, none⟩) C.length cC, .slice (some ⟨gE, 0, none⟩) E.length cE] := by rw [hw3]; exact Blk.newA w2 _ _
  obtain ⟨g3, hg3⟩ : ∃ g, w2.heap.size = g := ⟨_, rfl⟩
  rw [hg3] at k3
  have hg3b : w.heap.size < g3 := by have := (K1.out.later HB2.out).lt; omega
  have K3 := hide_ k3
  have HB13 := hide_ (below_to HB2.out b3)
  have K13 := hide_ (K1.out.later HB13.out)
  have HL3 := hide_ (HL2.out.later b3)
  clear i0 i1 i2
  have i0 := K13.out.cell 0; have i1 := K13.out.cell 1; have i2 := K13.out.cell 2
  simp at i0 i1 i2
  clear b3 k3
  go_upto_region 2 with fail
  rw [← hw3]
  try rw [hg3]
  clear hw3 hg3
  go_wp2_with fail
  refine (HCu.out w3 HB13.out).mono ?_
  rintro e w4 ⟨hC, dC, hE, dE, rfl, HL4, HB4⟩
  have K14 := K13.out.later HB4.out
  have kz := setP K14 (.bool enc) (.slice (some ⟨hC, 0, none⟩) C.length dC) (.slice (some ⟨hE, 0, none⟩) E.length dE)
  have hu5 : Upd (fun k => k = w.heap.size) w4 (((w4.setCell ⟨w.heap.size, 0, none⟩ (.bool enc)).setCell ⟨w.heap.size, 1, none⟩ (.slice (some ⟨hC, 0, none⟩) C.length dC)).setCell ⟨w.heap.size, 2, none⟩ (.slice (some ⟨hE, 0, none⟩) E.length dE)) := (((Upd.refl (fun k => k = w.heap.size) w4).set _ _ (.inl rfl)).set _ _ (.inl rfl)).set _ _ (.inl rfl)
  have z0 := K14.cell 0; have z1 := K14.cell 1; have z2 := K14.cell 2
  have zf := fun i => K14.frozen i
  simp at z0 z1 z2
  obtain ⟨w5, hw5⟩ : ∃ wx, wx = ((w4.setCell ⟨w.heap.size, 0, none⟩ (.bool enc)).setCell ⟨w.heap.size, 1, none⟩ (.slice (some ⟨hC, 0, none⟩) C.length dC)).setCell ⟨w.heap.size, 2, none⟩ (.slice (some ⟨hE, 0, none⟩) E.length dE) := ⟨_, rfl⟩
  rw [← hw5] at kz hu5
  have hB14 := below_to HB13.out HB4.out
  have hz1 : w.heap.size ≤ w1.heap.size := HB1.out.size
  have hz3 : w.heap.size ≤ w3.heap.size := Nat.le_trans hz1 HB13.out.size
  have HX5 : Hid (XaM w w5 enc g3 gC cC gE cE hC dC hE dE C E) := hide_ ⟨(K3.out.later HB4.out).upd hu5 (fun e => by omega), kz,
    (show LnP w4 w.heap.size gC cC gE cE C E from ⟨own_base (HL3.out.later HB4.out).c hz1, own_base (HL3.out.later HB4.out).e hz1, HL3.out.cc, HL3.out.ce⟩).upd hu5 (fun e => by have := ((HL3.out.later HB4.out).c.lt gC rfl).1; have := K1.out.lt; omega) (fun e => by have := ((HL3.out.later HB4.out).e.lt gE rfl).1; have := K1.out.lt; omega),
    (show LnP w4 w.heap.size hC dC hE dE C E from ⟨own_base HL4.out.c hz3, own_base HL4.out.e hz3, HL4.out.cc, HL4.out.ce⟩).upd hu5 (fun e => by have := (HL4.out.c.lt hC rfl).1; have := K13.out.lt; omega) (fun e => by have := (HL4.out.e.lt hE rfl).1; have := K13.out.lt; omega),
    (below_to HB1.out hB14).trans (hu5.below _ (below_to HB1.out hB14).size (fun k e => by omega))⟩
  clear K14 kz hu5 i0 i1 i2
  go_upto_region 3 with fail
  rw [← hw5]
  clear hw5 z0 z1 z2 zf HCu K1 K13 K3 HL2 HL3 HL4 HB2 HB13 HB4 HB1 hB14 hz1 hz3
  go_wp2_with fail
  go_loopw [4] (fun x4 wr => ∃ i : Nat, i ≤ 2 ∧ x4 = .int .i64 (i : Int) ∧ Hid (XaM w wr enc g3 gC cC gE cE hC dC hE dE C E)) (fun x4 _ => 2 - (intOf x4).toNat)
  case atStart => exact ⟨0, by omega, rfl, HX5⟩
  case round =>
    obtain ⟨i, hi, rfl, HX⟩ := hrel
    generalize wr = wq at *
    clear HX5
    by_cases hlt : i < 2
    · have hlt' : (i : Int) < 2 := by omega
      have hcC := HX.out.lo.cc
      have hcE := HX.out.lo.ce
      have HAll : Hid (∀ w', Below wq.heap.size wq w' → XaM w w' enc g3 gC cC gE cE hC dC hE dE C E) := hide_ (fun w' hb => HX.out.later hb)
      have HBx : Hid (∀ w', Below wq.heap.size wq w' → (w'.cell? ⟨g3, 0, none⟩ = some (.bool enc) ∧ w'.cell? ⟨g3, 1, none⟩ = some (.slice (some ⟨gC, 0, none⟩) C.length cC) ∧ w'.cell? ⟨g3, 2, none⟩ = some (.slice (some ⟨gE, 0, none⟩) E.length cE)) ∧ w'.cell? ⟨w.heap.size, 0, none⟩ = some (.bool enc) ∧ w'.cell? ⟨w.heap.size, 1, none⟩ = some (.slice (some ⟨hC, 0, none⟩) C.length dC) ∧ w'.cell? ⟨w.heap.size, 2, none⟩ = some (.slice (some ⟨hE, 0, none⟩) E.length dE)) := hide_ (fun w' hb => ⟨⟨(HAll.out w' hb).own.cell 0, (HAll.out w' hb).own.cell 1, (HAll.out w' hb).own.cell 2⟩, (HAll.out w' hb).par.cell 0, (HAll.out w' hb).par.cell 1, (HAll.out w' hb).par.cell 2⟩)
      have HcC : Hid (cC ≤ 9223372036854775807) := hide_ (by
        obtain ⟨_, _, _, e, _, _, h, _⟩ := ownS_blk HX.out.lo.c (by simp)
        injection e with _ _ e
        rw [e]
        unfold maxLen at h
        omega)
      obtain ⟨A, hA⟩ : ∃ A, chk enc C E = A := ⟨_, rfl⟩
      obtain ⟨ck1, ck2⟩ := A
      have HCk : Hid (∀ w', Below wq.heap.size wq w' → Calls Tryd.prog 12 #[.agg #[.bool enc, .slice (some ⟨gC, 0, none⟩) C.length cC, .slice (some ⟨gE, 0, none⟩) E.length cE]] w' fun e w'' => e = .returned (.agg #[.int .i64 ck1, .int .i64 ck2]) ∧ Below w'.heap.size w' w'') := hide_ (fun w' hb => by
        have h := check_any enc (some ⟨gC, 0, none⟩) (some ⟨gE, 0, none⟩) cC cE C E w' (by omega) HcC.out (by omega) (by omega) (by omega) (hide_ (HAll.out w' hb).lo.rowC) (hide_ (HAll.out w' hb).lo.rowE)
        rw [hA] at h
        exact h)
      have HRk : Hid (∀ w', Below wq.heap.size wq w' → Calls Tryd.prog 15 #[.agg #[.bool enc, .slice (some ⟨hC, 0, none⟩) C.length dC, .slice (some ⟨hE, 0, none⟩) E.length dE]] w' fun e w'' => e = .returned (.agg #[.int .i64 ck1, .int .i64 ck2]) ∧ Below w'.heap.size w' w'') := hide_ (fun w' hb => by
        have h := rcheck_any enc (some ⟨hC, 0, none⟩) (some ⟨hE, 0, none⟩) dC dE C E w' (by omega) (by omega) (hide_ (HAll.out w' hb).lp.rowC) (hide_ (HAll.out w' hb).lp.rowE)
        rw [hA] at h
        exact h)
      have HEn : Hid (∀ w', Below wq.heap.size wq w' → Calls Tryd.prog 8 #[.agg #[.bool enc, .slice (some ⟨gC, 0, none⟩) C.length cC, .slice (some ⟨gE, 0, none⟩) E.length cE]] w' fun e w'' => (∃ v, e = .returned (.tuple #[v, .agg #[.int .i64 ck1, .int .i64 ck2]]) ∧ Hid (BOwn w'' w'.heap.size v (encA enc C E))) ∧ Below w'.heap.size w' w'') := hide_ (fun w' hb => by
        have h := encode_any enc (some ⟨gC, 0, none⟩) (some ⟨gE, 0, none⟩) cC cE C E w' (by omega) HcC.out (by omega) (by omega) (by omega) (hide_ (HAll.out w' hb).lo.rowC) (hide_ (HAll.out w' hb).lo.rowE)
        rw [hA] at h
        exact h)
      have HRn : Hid (∀ w', Below wq.heap.size wq w' → Calls Tryd.prog 16 #[.agg #[.bool enc, .slice (some ⟨hC, 0, none⟩) C.length dC, .slice (some ⟨hE, 0, none⟩) E.length dE]] w' fun e w'' => ∃ v, e = .returned (.tuple #[v, .int .i64 ck1, .int .i64 ck2]) ∧ Hid (BOwn w'' w'.heap.size v (encA enc C E)) ∧ Hid (Below w'.heap.size w' w'')) := hide_ (fun w' hb => by
        have h := rencode_any enc (some ⟨hC, 0, none⟩) (some ⟨hE, 0, none⟩) dC dE C E w' (by omega) (by omega) (hide_ (HAll.out w' hb).lp.rowC) (hide_ (HAll.out w' hb).lp.rowE)
        unfold EnTo at h
        rw [hA] at h
        exact h)
      obtain ⟨sA, hsA⟩ : ∃ s : ByteArray, ⟨(prnA enc C E).toArray⟩ = s := ⟨_, rfl⟩
      have HPn : Hid (∀ w', Below wq.heap.size wq w' → Calls Tryd.prog 10 #[.agg #[.bool enc, .slice (some ⟨gC, 0, none⟩) C.length cC, .slice (some ⟨gE, 0, none⟩) E.length cE]] w' fun e w'' => e = .returned (.tuple #[.string sA, .agg #[.int .i64 ck1, .int .i64 ck2]]) ∧ Below w'.heap.size w' w'') := hide_ (fun w' hb => by
        have h := print_any enc (some ⟨gC, 0, none⟩) (some ⟨gE, 0, none⟩) cC cE C E w' (by omega) HcC.out (by omega) (by omega) (by omega) (hide_ (HAll.out w' hb).lo.rowC) (hide_ (HAll.out w' hb).lo.rowE) (hide_ (tabB_at HT.out (HAll.out w' hb).bl (HAll.out w' hb).bl.size))
        rw [hA, hsA] at h
        exact h)
      have HRp : Hid (∀ w', Below wq.heap.size wq w' → Calls Tryd.prog 17 #[.agg #[.bool enc, .slice (some ⟨hC, 0, none⟩) C.length dC, .slice (some ⟨hE, 0, none⟩) E.length dE]] w' fun e w'' => e = .returned (.tuple #[.string sA, .int .i64 ck1, .int .i64 ck2]) ∧ Below w'.heap.size w' w'') := hide_ (fun w' hb => by
        have h := rprint_any enc (some ⟨hC, 0, none⟩) (some ⟨hE, 0, none⟩) dC dE C E w' (by omega) (by omega) (hide_ (HAll.out w' hb).lp.rowC) (hide_ (HAll.out w' hb).lp.rowE) (hide_ (tabB_at HT.out (HAll.out w' hb).bl (HAll.out w' hb).bl.size))
        rw [hA, hsA] at h
        exact h)
      have HEq : Hid (∀ w', Below wq.heap.size wq w' → Calls Tryd.prog 13 #[.agg #[.bool enc, .slice (some ⟨gC, 0, none⟩) C.length cC, .slice (some ⟨gE, 0, none⟩) E.length cE], .agg #[.bool enc, .slice (some ⟨hC, 0, none⟩) C.length dC, .slice (some ⟨hE, 0, none⟩) E.length dE]] w' fun e w'' => e = .returned (.bool true) ∧ Below w'.heap.size w' w'') := hide_ (fun w' hb => by
        have h := equal_any enc enc (some ⟨gC, 0, none⟩) (some ⟨hC, 0, none⟩) (some ⟨gE, 0, none⟩) (some ⟨hE, 0, none⟩) cC dC cE dE C C E E w' (by omega) (by omega) (by omega) (by omega) (hide_ (HAll.out w' hb).lo.rowC) (hide_ (HAll.out w' hb).lp.rowC) (hide_ (HAll.out w' hb).lo.rowE) (hide_ (HAll.out w' hb).lp.rowE)
        rw [eqP_iff.2 ⟨rfl, rfl, rfl⟩] at h
        exact h)
      have HKe : Hid (∀ w', Below wq.heap.size wq w' → Calls Tryd.prog 18 #[.agg #[.bool enc, .slice (some ⟨gC, 0, none⟩) C.length cC, .slice (some ⟨gE, 0, none⟩) E.length cE], .agg #[.bool enc, .slice (some ⟨hC, 0, none⟩) C.length dC, .slice (some ⟨hE, 0, none⟩) E.length dE]] w' fun e w'' => e = .returned (.bool true) ∧ Below w'.heap.size w' w'') := hide_ (fun w' hb => kept_yes enc gC cC gE cE w.heap.size (some ⟨hC, 0, none⟩) (some ⟨hE, 0, none⟩) dC dE C E w' (by omega) (by omega) (hide_ (HAll.out w' hb).lo) (hide_ (HAll.out w' hb).lp.rowC) (hide_ (HAll.out w' hb).lp.rowE))
      have HIs : Hid (∀ w', Calls Tryd.prog 11 #[.agg #[.int .i64 ck1, .int .i64 ck2], .int .i64 ck1, .int .i64 ck2] w' fun r w'' => r = .returned (.bool true) ∧ Below w'.heap.size w' w'') := hide_ (fun w' => by
        have h := is_any ck1 ck2 ck1 ck2 w'
        rw [show (ck1 == ck1 && ck2 == ck2) = true by simp] at h
        exact h)
      have hll := encA_len enc C E
      obtain ⟨L, hL⟩ : ∃ L, encA enc C E = L := ⟨_, rfl⟩
      rw [hL] at HEn HRn hll
      clear hA hsA hL
      have HD0 : Hid (Below wq.heap.size wq wq) := hide_ (Below.refl _ _)
      obtain ⟨⟨x0, x1, x2⟩, y0, y1, y2⟩ := HBx.out wq HD0.out
      go_wp2_with fail
      refine (HCk.out wq HD0.out).mono ?_
      rintro e w10 ⟨rfl, hb10⟩
      obtain ⟨w11, hw11⟩ : ∃ wx, wx = w10.alloc (.cells #[.int .i64 ck1, .int .i64 ck2] 33) := ⟨_, rfl⟩
      have b11 : Below w10.heap.size w10 w11 := by rw [hw11]; exact below1 _ _
      have k11 : Blk w11 w10.heap.size 33 [.int .i64 ck1, .int .i64 ck2] := by rw [hw11]; exact Blk.newA w10 _ _
      have HD11 := hide_ (below_to hb10 b11)
      have KF11 := hide_ k11
      clear x0 x1 x2 y0 y1 y2 hb10 b11 k11
      obtain ⟨⟨x0, x1, x2⟩, y0, y1, y2⟩ := HBx.out w11 HD11.out
      go_upto_region 7 with fail
      rw [← hw11]
      clear hw11
      go_wp2_with fail
      refine (HRk.out w11 HD11.out).mono ?_
      rintro e w12 ⟨rfl, hb12⟩
      obtain ⟨w13, hw13⟩ : ∃ wx, wx = w12.alloc (.cells #[.int .i64 ck1, .int .i64 ck2] 33) := ⟨_, rfl⟩
      have b13 : Below w12.heap.size w12 w13 := by rw [hw13]; exact below1 _ _
      have k13 : Blk w13 w12.heap.size 33 [.int .i64 ck1, .int .i64 ck2] := by rw [hw13]; exact Blk.newA w12 _ _
      have HC13 := hide_ (below_to hb12 b13)
      have HD13 := hide_ (below_to HD11.out HC13.out)
      have KF13 := hide_ k13
      clear x0 x1 x2 y0 y1 y2 hb12 b13 k13
      obtain ⟨⟨x0, x1, x2⟩, y0, y1, y2⟩ := HBx.out w13 HD13.out
      go_upto_region 8 with fail
      rw [← hw13]
      clear hw13
      go_wp2_with fail
      refine (HEn.out w13 HD13.out).mono ?_
      rintro e w14 ⟨⟨vb, rfl, HOb⟩, hb14⟩
      obtain ⟨w15, hw15⟩ : ∃ wx, wx = w14.alloc (.cells #[.int .i64 ck1, .int .i64 ck2] 33) := ⟨_, rfl⟩
      have b15 : Below w14.heap.size w14 w15 := by rw [hw15]; exact below1 _ _
      have k15 : Blk w15 w14.heap.size 33 [.int .i64 ck1, .int .i64 ck2] := by rw [hw15]; exact Blk.newA w14 _ _
      have HC15 := hide_ (below_to hb14 b15)
      have HD15 := hide_ (below_to HD13.out HC15.out)
      have KF15 := hide_ k15
      have HOb := hide_ (HOb.out.later b15)
      have hz13 : wq.heap.size ≤ w13.heap.size := HD13.out.size
      clear x0 x1 x2 y0 y1 y2 hb14 b15 k15
      obtain ⟨⟨x0, x1, x2⟩, y0, y1, y2⟩ := HBx.out w15 HD15.out
      go_upto_region 9 with fail
      rw [← hw15]
      clear hw15
      go_wp2_with fail
      refine (HRn.out w15 HD15.out).mono ?_
      rintro e w16 ⟨vc, rfl, HOc, HB16⟩
      have HD16 := hide_ (below_to HD15.out HB16.out)
      clear x0 x1 x2 y0 y1 y2
      obtain ⟨⟨x0, x1, x2⟩, y0, y1, y2⟩ := HBx.out w16 HD16.out
      go_wp2_with fail
      refine (HPn.out w16 HD16.out).mono ?_
      rintro e w17 ⟨rfl, hb17⟩
      obtain ⟨w18, hw18⟩ : ∃ wx, wx = w17.alloc (.cells #[.int .i64 ck1, .int .i64 ck2] 33) := ⟨_, rfl⟩
      have b18 : Below w17.heap.size w17 w18 := by rw [hw18]; exact below1 _ _
      have k18 : Blk w18 w17.heap.size 33 [.int .i64 ck1, .int .i64 ck2] := by rw [hw18]; exact Blk.newA w17 _ _
      have HC18 := hide_ (below_to hb17 b18)
      have HD18 := hide_ (below_to HD16.out HC18.out)
      have KF18 := hide_ k18
      clear x0 x1 x2 y0 y1 y2 hb17 b18 k18
      obtain ⟨⟨x0, x1, x2⟩, y0, y1, y2⟩ := HBx.out w18 HD18.out
      go_upto_region 11 with fail
      rw [← hw18]
      clear hw18
      go_wp2_with fail
      refine (HRp.out w18 HD18.out).mono ?_
      rintro e w19 ⟨rfl, hb19⟩
      have HD19 := hide_ (below_to HD18.out hb19)
      have HC19 := hide_ hb19
      clear x0 x1 x2 y0 y1 y2 hb19
      have HOb := hide_ (((HOb.out.later HB16.out).later HC18.out).later HC19.out)
      have HOc := hide_ ((HOc.out.later HC18.out).later HC19.out)
      have KA := hide_ (((((KF11.out.later HC13.out).later HC15.out).later HB16.out).later HC18.out).later HC19.out)
      have KB := hide_ ((((KF13.out.later HC15.out).later HB16.out).later HC18.out).later HC19.out)
      have KC := hide_ (((KF15.out.later HB16.out).later HC18.out).later HC19.out)
      have KD := hide_ (KF18.out.later HC19.out)
      clear KF11 KF13 KF15 KF18 HC13 HC15 HB16 HC18 HC19
      obtain ⟨ab, cb, hvb, hrb, -, -, -⟩ := HOb.out.row
      obtain ⟨ad, cd, hvd, hrd, -, -, -⟩ := HOc.out.row
      subst hvb hvd
      have hcv1 := conv_row E23 Tryd.underlying9 w19 ab L.length cb L rfl hrb
      have hcv2 := conv_row E23 Tryd.underlying9 w19 ad L.length cd L rfl hrd
      generalize strOfNums L = sL at *
      have f0 := KA.out.cell 0; have f1 := KA.out.cell 1
      have f2 := KB.out.cell 0; have f3 := KB.out.cell 1
      have f4 := KC.out.cell 0; have f5 := KC.out.cell 1
      simp at f0 f1 f2 f3 f4 f5
      have n1 : (ck1 != ck1) = false := by simp
      have n2 : (ck2 != ck2) = false := by simp
      go_wp2_with fail
      refine (HIs.out _).mono ?_
      rintro e w20 ⟨rfl, hb20⟩
      have HD20 := hide_ (below_to HD19.out hb20)
      have HOb := hide_ (HOb.out.later hb20)
      have f6 := (KD.out.later hb20).cell 0; have f7 := (KD.out.later hb20).cell 1
      simp at f6 f7
      clear f0 f1 f2 f3 f4 f5 hb20 hcv1 hcv2 hrb hrd
      go_wp2_with fail
      refine (HIs.out _).mono ?_
      rintro e w21 ⟨rfl, hb21⟩
      have HD21 := hide_ (below_to HD20.out hb21)
      have HOb := hide_ (HOb.out.later hb21)
      clear f6 f7 hb21
      obtain ⟨⟨x0, x1, x2⟩, y0, y1, y2⟩ := HBx.out w21 HD21.out
      go_wp2_with fail
      refine (HEq.out w21 HD21.out).mono ?_
      rintro e w22 ⟨rfl, hb22⟩
      have HD22 := hide_ (below_to HD21.out hb22)
      have HOb := hide_ (HOb.out.later hb22)
      clear x0 x1 x2 y0 y1 y2 hb22
      obtain ⟨⟨x0, x1, x2⟩, y0, y1, y2⟩ := HBx.out w22 HD22.out
      go_wp2_with fail
      refine (HKe.out w22 HD22.out).mono ?_
      rintro e w23 ⟨rfl, hb23⟩
      have HD23 := hide_ (below_to HD22.out hb23)
      have HOb := hide_ (HOb.out.later hb23)
      have HX23 := hide_ (HAll.out w23 HD23.out)
      have hzw : w.heap.size ≤ wq.heap.size := HX.out.bl.size
      obtain ⟨n, hn⟩ : ∃ n, L.length = n := ⟨_, rfl⟩
      rw [hn] at HOb hll ⊢
      have HnL := hide_ hn
      clear x0 x1 x2 y0 y1 y2 hb23 HAll HBx HCk HRk HEn HRn HPn HRp HEq HKe HIs HX KA KB KC KD HOc HD22 HD21 HD20 HD19 HD18 HD16 HD15 HD11 hn
      go_wp2_with fail
      go_loopw [17] (fun x17 wr => ∃ (j : Nat) (L' : List Int), x17 = .int .i64 (j : Int) ∧ j ≤ n ∧ Hid (L'.length = n) ∧ Hid (BOwn wr w13.heap.size (.slice ab n cb) L') ∧ Hid (XaM w wr enc g3 gC cC gE cE hC dC hE dE C E)) (fun x17 _ => n - (intOf x17).toNat)
      case atStart => exact ⟨0, L, rfl, Nat.zero_le _, HnL, HOb, HX23⟩
      case round =>
        obtain ⟨j, L', rfl, hj, HLn, HOj, HXj⟩ := hrel
        generalize wr = wj at *
        clear HOb HX23
        by_cases hjl : j < n
        · have hjl' : (j : Int) < n := by omega
          obtain ⟨gb, hgb⟩ : ∃ g, ab = some ⟨g, 0, none⟩ := by
            obtain ⟨g, _, _, e, _⟩ := ownS_blk HOj.out (by rw [HLn.out]; omega)
            injection e with e _ _
            exact ⟨g, e⟩
          subst hgb
          obtain ⟨hset, hcj, hfj⟩ := BOwn.setZ HOj.out (i := j) (by rw [HLn.out]; exact hjl) 119
          obtain ⟨ys, hys⟩ := ownS_type HOj.out (k := gb) rfl
          have hgw : w.heap.size ≤ gb := by have := (World.ownsRow.lt HOj.out gb rfl).1; omega
          have HXn := hide_ (HXj.out.updB ((Upd.refl (fun k => k = gb) wj).set ⟨gb, j, none⟩ (.int .u8 119) (.inl rfl)) hys hgw)
          have HOn := hide_ hset
          have HLn2 : Hid ((L'.set j 119).length = n) := hide_ (by rw [List.length_set]; exact HLn.out)
          generalize L'.getD j 0 = q at *
          clear hset hys HOj HXj
          go_wp2_with fail
          go_roundw
          case rel => exact ⟨j + 1, _, by go_num, by omega, HLn2, HOn, HXn⟩
          case measure => simp [intOf]; omega
        · have hjl' : ¬ (j : Int) < n := by omega
          go_wp2_with fail
          go_roundw
          case rel => exact ⟨i + 1, by omega, by go_num, HXj⟩
          case measure => simp [intOf]; omega
    · obtain rfl : i = 2 := by omega
      have HBf := hide_ HX.out.bl
      go_wp2
      go_ret
      exact ⟨rfl, HBf.out⟩
set_option maxRecDepth 100000 in
set_option maxHeartbeats 8000000 in
theorem codeExact_any (enc : Bool) (ac ae : Option Addr) (cc ce : Nat) (C0 : List In) (E0 : List Int) (w : World) (hCl : C0.length ≤ 4398046511104) (hEl : E0.length ≤ 17592186044415) (hcc : C0.length ≤ cc) (hce : E0.length ≤ ce) (hcn : ac = none → cc = 0) (hen : ae = none → ce = 0) (hr : Hid (IRow w ac C0)) (he : Hid (Row .i64 w ae E0)) (HT : Hid (TabB w.heap.size w)) :
    Calls Tryd.prog 3 #[.agg #[.bool enc, .slice ac C0.length cc, .slice ae E0.length ce]] w fun e w' => e = .returned (.bool true) ∧ Below w.heap.size w w' := by
  obtain ⟨w1, hw1⟩ : ∃ wx, wx = w.alloc (.cells #[.bool enc, .slice ac C0.length cc, .slice ae E0.length ce] 25) := ⟨_, rfl⟩
  have b1 : Below w.heap.size w w1 := by rw [hw1]; exact below1 _ _
  have k1 : Blk w1 w.heap.size 25 [.bool enc, .slice ac C0.length cc, .slice ae E0.length ce] := by rw [hw1]; exact Blk.newA w _ _
  have K1 := hide_ k1
  have HB1 := hide_ b1
  have HTb : Hid (∀ w', Below w.heap.size w w' → TabB w'.heap.size w') := hide_ (fun w' hb => tabB_at HT.out hb hb.size)
  have HAw := hide_ (awake_any w1 (hide_ (HTb.out w1 b1)))
  have HEx : Hid (∀ w', Below w1.heap.size w1 w' → Calls Tryd.prog 5 #[.agg #[.bool enc, .slice ac C0.length cc, .slice ae E0.length ce]] w' fun e w'' => e = .returned (.bool true) ∧ Below w'.heap.size w' w'') := hide_ (fun w' hb => exact_any enc ac ae cc ce C0 E0 w' hCl (by omega) hcc hce hcn hen (hide_ (hr.out.later (below_to HB1.out hb))) (hide_ (he.out.later (below_to HB1.out hb))) (hide_ (HTb.out w' (below_to HB1.out hb))))
  have HMd : Hid (∀ w', Below w1.heap.size w1 w' → Calls Tryd.prog 6 #[.agg #[.bool enc, .slice ac C0.length cc, .slice ae E0.length ce], .int .i64 ((400 : Nat) : Int)] w' (MadeTo enc 400 w')) := hide_ (fun w' hb => rmade_any enc ac ae cc ce C0 E0 400 w' (by omega) hCl hEl hcn hen (hide_ (hr.out.later (below_to HB1.out hb))) (hide_ (he.out.later (below_to HB1.out hb))))
  clear b1 k1
  go_enter Tryd.func3, Tryd.ntmps3
  go_upto_region 1 with fail
  rw [← hw1]
  clear hw1
  go_wp2_with fail
  refine HAw.out.mono ?_
  rintro e w2 ⟨rfl, hb2⟩
  have HD2 := hide_ hb2
  have i0 := (K1.out.later hb2).cell 0; have i1 := (K1.out.later hb2).cell 1; have i2 := (K1.out.later hb2).cell 2
  simp at i0 i1 i2
  clear hb2
  go_wp2_with fail
  refine (HEx.out w2 HD2.out).mono ?_
  rintro e w3 ⟨rfl, hb3⟩
  have HD3 := hide_ (below_to HD2.out hb3)
  clear i0 i1 i2 hb3
  have i0 := (K1.out.later HD3.out).cell 0; have i1 := (K1.out.later HD3.out).cell 1; have i2 := (K1.out.later HD3.out).cell 2
  simp at i0 i1 i2
  go_wp2_with fail
  refine (HMd.out w3 HD3.out).mono ?_
  rintro e w4 ⟨vC, vE, C, E, rfl, hck, hC0, hCm, hE0, hoC, hoE, hB4⟩
  obtain ⟨aC, cC, hvC, hcC, hnC, hrC⟩ := hoC.row
  obtain ⟨aE, cE, hvE, hrE, hnE, hcE⟩ := hoE.row
  subst hvC hvE
  have HD4 := hide_ (below_to HB1.out (below_to HD3.out hB4))
  have HE2 := hide_ (exact_any enc aC aE cC cE C E w4 (by omega) (by have := hck.ne; omega) hcC hcE hnC hnE (hide_ hrC) (hide_ hrE) (hide_ (HTb.out w4 HD4.out)))
  clear i0 i1 i2 hck hoC hoE hB4 hrC hrE hnC hnE hcC hcE
  go_wp2_with fail
  refine HE2.out.mono ?_
  rintro e w5 ⟨rfl, hb5⟩
  have HBf := hide_ (below_to HD4.out hb5)
  clear hb5
  go_wp2
  go_ret
  exact ⟨rfl, HBf.out⟩
end Go.Proofs.YteadmiikenpjeaaDoor
/- What the reading of a program says of memory. -/
namespace Go.Proofs.YteadmiikenpjeaaDoor
open Go.ChangeShapes Go.WideShapes Go.ChangeAt Go.RowKit
set_option linter.unusedVariables false

variable {H : Type} {enc : TypeId × Value → H} {w : World} {base : Nat} {held : Bool}
theorem len3P {cs : List Value} (h : cs.length = 3) : ∃ c0 c1 c2, cs = [c0, c1, c2] := by
  match cs, h with
  | [c0, c1, c2], _ => exact ⟨c0, c1, c2, rfl⟩
theorem len4P {cs : List Value} (h : cs.length = 4) : ∃ c0 c1 c2 c3, cs = [c0, c1, c2, c3] := by
  match cs, h with
  | [c0, c1, c2, c3], _ => exact ⟨c0, c1, c2, c3, rfl⟩
theorem cellsIn : Tryd.prog.cellsOf 41 = 4 := by kernel_rfl
theorem cellsPg : Tryd.prog.cellsOf 25 = 3 := by kernel_rfl
theorem cellsIt : Tryd.prog.cellsOf 3 = 1 := by kernel_rfl
theorem bytesIn : Tryd.prog.bytesOf 41 = 32 := by kernel_rfl
theorem bytesIt : Tryd.prog.bytesOf 3 = 8 := by kernel_rfl
theorem slice_weightP {P : Program} {t e : TypeId} (ht : P.underlying t = some (.slice e)) {fuel : Nat} {a0 : Option Addr} {len cap : Nat} {y : DataW H × List MemPlace} (h : DataW.trod enc P w base (fun _ => true) held fuel t [.slice a0 len cap] = some y) : len = 0 ∨ ∃ k, len ≤ k ∧ k * P.bytesOf e ∈ y.1.weights P t := by
  rcases Go.Deep.open_slice ht h with ⟨hcs, _⟩ | ⟨x, l, c, m, n, D, Pl, hcs, _, hl, hm, hmm, hy, hel⟩
  · left
    simp at hcs
    exact hcs.2.1
  · simp at hcs
    obtain ⟨rfl, rfl, rfl⟩ := hcs
    right
    subst hy
    simp only [DataW.weights, ht]
    refine ⟨_, ?_, List.mem_cons_self⟩
    simp
theorem slice_formP {P : Program} {t e : TypeId} (ht : P.underlying t = some (.slice e)) {fuel : Nat} {c : Value} {y : DataW H × List MemPlace} (h : DataW.trod enc P w base (fun _ => true) held fuel t [c] = some y) : ∃ a n cap, c = .slice a n cap ∧ n ≤ cap ∧ (a = none → cap = 0) ∧ n ≤ maxLen ∧ cap ≤ maxLen := by
  rcases Go.Deep.open_slice ht h with ⟨hcs, _⟩ | ⟨x, l, c', m, n, D, Pl, hcs, _, hl, hm, _⟩
  · simp at hcs
    exact ⟨none, 0, 0, hcs, Nat.le_refl _, fun _ => rfl, Nat.zero_le _, Nat.zero_le _⟩
  · simp at hcs
    exact ⟨some x, l, c', hcs, hl, (fun h => by cases h), Nat.le_trans hl hm, hm⟩
theorem list_ofP {α : Type} (n : Nat) (Q : Nat → α → Prop) (h : ∀ i, i < n → ∃ x, Q i x) : ∃ l : List α, l.length = n ∧ ∀ i x, l[i]? = some x → Q i x := by
  induction n with
  | zero => exact ⟨[], rfl, fun i x h => by simp at h⟩
  | succ n ih =>
    obtain ⟨l, h1, h2⟩ := ih (fun i hi => h i (by omega))
    obtain ⟨x, hx⟩ := h n (by omega)
    refine ⟨l ++ [x], by simp [h1], fun i y hy => ?_⟩
    rcases Nat.lt_or_ge i l.length with hi | hi
    · rw [List.getElem?_append_left hi] at hy; exact h2 i y hy
    · rw [List.getElem?_append_right hi] at hy
      have h0 : i - l.length = 0 := by have := (List.getElem?_eq_some_iff.1 hy).1; simpa using this
      rw [h0] at hy
      simp at hy
      subst hy
      obtain rfl : i = n := by omega
      exact hx
theorem instr_open {fuel : Nat} {cs : List Value} {y : DataW H × List MemPlace} (h : DataW.trod enc Tryd.prog w base (fun _ => true) held fuel 41 cs = some y) : ∃ x : In, cs = inc x := by
  obtain ⟨hl, m, hf⟩ := field_read Tryd.underlying41 h
  rw [cellsIn] at hl
  obtain ⟨c0, c1, c2, c3, rfl⟩ := len4P hl
  obtain ⟨y0, t0⟩ := hf 0 _ c0 rfl (by kernel_rfl) rfl
  obtain ⟨y1, t1⟩ := hf 1 _ c1 rfl (by kernel_rfl) rfl
  obtain ⟨y2, t2⟩ := hf 2 _ c2 rfl (by kernel_rfl) rfl
  obtain ⟨y3, t3⟩ := hf 3 _ c3 rfl (by kernel_rfl) rfl
  obtain ⟨a0, k0, _, _⟩ := DataW.trod_int Tryd.underlying3 t0
  obtain ⟨a1, k1, _, _⟩ := DataW.trod_int Tryd.underlying3 t1
  obtain ⟨a2, k2, _, _⟩ := DataW.trod_int Tryd.underlying3 t2
  obtain ⟨a3, k3, _, _⟩ := DataW.trod_int Tryd.underlying3 t3
  simp at k0 k1 k2 k3
  subst k0 k1 k2 k3
  exact ⟨⟨a0, a1, a2, a3⟩, rfl⟩
theorem instrs_open {fuel : Nat} {c : Value} {y : DataW H × List MemPlace} (h : DataW.trod enc Tryd.prog w base (fun _ => true) held fuel 22 [c] = some y) (hw : ∀ k ∈ y.1.weights Tryd.prog 22, k ≤ 140737488351232) :
    ∃ a cap l, c = .slice a l.length cap ∧ l.length ≤ cap ∧ (a = none → cap = 0) ∧ IRow w a l ∧ l.length ≤ 4398046510976 ∧ cap ≤ 9223372036854775807 := by
  obtain ⟨a, n, cap, rfl, hc, hz, _, hmx⟩ := slice_formP Tryd.underlying22 h
  unfold maxLen at hmx
  have hb : n ≤ 4398046510976 := by
    rcases slice_weightP Tryd.underlying22 h with h0 | ⟨k, h1, h2⟩
    · omega
    · have := hw _ h2
      rw [bytesIn] at this
      omega
  rcases structs_read Tryd.underlying22 (by rw [cellsIn]; omega) h with h0 | ⟨b, off, m, rfl, hbl, hlc, hcm, hel⟩
  · subst h0
    exact ⟨a, cap, [], rfl, hc, hz, .inl rfl, by simp, by omega⟩
  · rw [cellsIn] at hel
    obtain ⟨N, hN, hQ⟩ := list_ofP n (fun i (x : In) => ∀ j, j < 4 → w.cell? ⟨b, off + i * 4 + j, none⟩ = (inc x)[j]?) (fun i hi => by
      obtain ⟨cs, z, _, hcell, ht⟩ := hel i hi
      obtain ⟨x, rfl⟩ := instr_open ht
      exact ⟨x, hcell⟩)
    subst hN
    exact ⟨some ⟨b, off, none⟩, cap, N, rfl, hc, hz, .inr ⟨b, off, rfl, hbl, fun i x hx => hQ i x hx⟩, hb, by omega⟩
theorem prog_open {fuel : Nat} {cs : List Value} {y : DataW H × List MemPlace} (h : DataW.trod enc Tryd.prog w base (fun _ => true) held fuel 25 cs = some y) (hw : ∀ k ∈ y.1.weights Tryd.prog 25, k ≤ 140737488351232) :
    ∃ en ac cc C ae ce E, cs = [.bool en, .slice ac C.length cc, .slice ae E.length ce] ∧ C.length ≤ cc ∧ (ac = none → cc = 0) ∧ IRow w ac C ∧ C.length ≤ 4398046510976 ∧ cc ≤ 9223372036854775807 ∧ E.length ≤ ce ∧ (ae = none → ce = 0) ∧ Row .i64 w ae E ∧ E.length ≤ 17592186043904 := by
  obtain ⟨hl, m, hf⟩ := field_weigh Tryd.underlying25 h
  rw [cellsPg] at hl
  obtain ⟨c0, c1, c2, rfl⟩ := len3P hl
  obtain ⟨y0, t0, u0⟩ := hf 0 _ c0 rfl (by kernel_rfl) rfl
  obtain ⟨y1, t1, u1⟩ := hf 1 _ c1 rfl (by kernel_rfl) rfl
  obtain ⟨y2, t2, u2⟩ := hf 2 _ c2 rfl (by kernel_rfl) rfl
  obtain ⟨en, k0, _⟩ := DataW.trod_bool Tryd.underlying4 t0
  obtain ⟨ac, cc, C, rfl, e1, e2, e3, e4, e5⟩ := instrs_open t1 (fun k hk => hw k (u1 k hk))
  obtain ⟨ae, n, ce, E, rfl, f1, f2, f3, f4, f5, -, f6⟩ := row_weigh Tryd.underlying23 Tryd.underlying3 cellsIt t2
  simp at k0
  subst k0 f3
  refine ⟨en, ac, cc, C, ae, ce, E, rfl, e1, e2, e3, e4, e5, f1, f5, f4, ?_⟩
  rcases f6 with h | h
  · omega
  · have := hw _ (u2 _ h)
    rw [bytesIt] at this
    omega
end Go.Proofs.YteadmiikenpjeaaDoor
/- What the rows' lists of laid variables give, and a world in which they hold. -/
namespace Go.Proofs.YteadmiikenpjeaaDoor
open Go.RowKit
set_option linter.unusedVariables false

theorem own : ownKnob Tryd.prog.godebug = none := by kernel_rfl
theorem laidOut : laidOutB Tryd.prog = true := by kernel_rfl
theorem gPow : Tryd.prog.globalNamed "internal/strconv.uint64pow10" = some 0 := by kernel_rfl
theorem gPowT : (Tryd.prog.globals[0]?).map (·.type) = some 111 := by kernel_rfl
theorem cellsPow : Tryd.prog.cellsOf 111 = 20 := by kernel_rfl
theorem laid_pow : (Rows.laid_internal_strconv_uint64pow10 : DataW Unit) = Lib.tabData .u64 Lib.pow10Tab := by kernel_rfl
theorem tab_of {W : World} (h : laidMetH Tryd.prog Rows.codeExactRow.laid W) : TabB W.heap.size W := by
  have h1 : laidMet Tryd.prog Rows.codeExactRow.laid W := h
  have h2 : laidMet Tryd.prog [("internal/strconv.uint64pow10", Rows.laid_internal_strconv_uint64pow10)] W := laidMet.tail (laidMet.tail h1)
  rw [laid_pow] at h2
  have h3 := Lib.tabIs_of_head (e := 59) gPow gPowT (by kernel_rfl) (by kernel_rfl) (by kernel_rfl) cellsPow h2
  have h4 := World.block_lt_of_cell? W _ (h3.cell gPow 0 (by decide))
  intro w' hB
  unfold Lib.TabIs World.var? at *
  rw [gPow] at h3 ⊢
  simp only [Option.bind_some] at h3 ⊢
  rw [hB.block 0 h4]
  exact h3
/-- The settled world w, the tables (blocks 0, 1, 2) holding what their initialisers lay. -/
def laidIn (w : World) : World :=
  { w with heap := ((w.heap.modify 0 fun
      | .cells _ t frozen => .cells (Lib.pow10Tab.map fun z => Value.int .u64 z).toArray t frozen
      | o => o).modify 1 fun
      | .cells _ t frozen => .cells #[.int .u8 0, .int .u8 1, .int .u8 28, .int .u8 2, .int .u8 29, .int .u8 14, .int .u8 24, .int .u8 3, .int .u8 30, .int .u8 22, .int .u8 20, .int .u8 15, .int .u8 25, .int .u8 17, .int .u8 4, .int .u8 8, .int .u8 31, .int .u8 27, .int .u8 13, .int .u8 23, .int .u8 21, .int .u8 19, .int .u8 16, .int .u8 7, .int .u8 26, .int .u8 12, .int .u8 18, .int .u8 6, .int .u8 11, .int .u8 5, .int .u8 10, .int .u8 9] t frozen
      | o => o).modify 2 fun
      | .cells _ t frozen => .cells #[.int .u8 0, .int .u8 1, .int .u8 56, .int .u8 2, .int .u8 57, .int .u8 49, .int .u8 28, .int .u8 3, .int .u8 61, .int .u8 58, .int .u8 42, .int .u8 50, .int .u8 38, .int .u8 29, .int .u8 17, .int .u8 4, .int .u8 62, .int .u8 47, .int .u8 59, .int .u8 36, .int .u8 45, .int .u8 43, .int .u8 51, .int .u8 22, .int .u8 53, .int .u8 39, .int .u8 33, .int .u8 30, .int .u8 24, .int .u8 18, .int .u8 12, .int .u8 5, .int .u8 63, .int .u8 55, .int .u8 48, .int .u8 27, .int .u8 60, .int .u8 41, .int .u8 37, .int .u8 16, .int .u8 46, .int .u8 35, .int .u8 44, .int .u8 21, .int .u8 52, .int .u8 32, .int .u8 23, .int .u8 11, .int .u8 54, .int .u8 26, .int .u8 40, .int .u8 15, .int .u8 34, .int .u8 20, .int .u8 31, .int .u8 10, .int .u8 25, .int .u8 14, .int .u8 19, .int .u8 9, .int .u8 13, .int .u8 8, .int .u8 7, .int .u8 6] t frozen
      | o => o }
end Go.Proofs.YteadmiikenpjeaaDoor
/- CodeExact, out of its walk. The frame round the walk is that of the tool proof-skeleton. -/
namespace Go.Proofs.YteadmiikenpjeaaDoor.codeExact
open Go.ChangeMaps Go.ChangeShapes Go.WideShapes Go.ChangeAt Go.RowKit
set_option linter.unusedVariables false

theorem tab_here {W : World} (h : laidMetH Tryd.prog Rows.codeExactRow.laid W) : TabB W.heap.size W := tab_of h
set_option maxRecDepth 100000 in
theorem contract (H : Type) (enc : TypeId × Value → H) (W : World) (base : Nat) (args : Array Value) (ds gs : List (DataW H)) (before : List MemPlace)
    (hval : ∀ (j : Nat) t v, Tryd.f3.params[j]? = some t → args[j]? = some v → Value.okWide Tryd.prog W .any base t v)
    (hW : DataW.Whole enc Tryd.prog Tryd.f3.params.toList Rows.codeExactSpec.vars false W args.toList ds gs before) (hsz0 : (DataW.weightsEach Tryd.prog (Tryd.f3.params.toList ++ Rows.codeExactSpec.plain.varTypes Tryd.prog) (ds ++ gs)).all (· ≤ reachBytes) = true) (hL : laidMetH Tryd.prog Rows.codeExactRow.laid W) :
    Calls Tryd.prog 3 args W fun e W' => ∃ v, e = .returned v ∧ Rows.codeExactSpec.post enc Tryd.prog Tryd.f3 false true false false W args v W' := by
  have hsz := hsz0
  have hW' := hW
  obtain ⟨p, q, hA0, hV, rfl, hfz, hnd⟩ := hW
  have hA : DataW.TrodAll enc Tryd.prog W 0 (fun _ => true) true Tryd.f3.params.toList args.toList ds p := hA0
  rw [Tryd.params3] at hA hval hsz
  obtain ⟨v0, vs0, d0, ds0, p0, q0, hargs, rfl, rfl, h0, r0⟩ := trodAll_cons hA
  obtain ⟨rfl, rfl, rfl⟩ := trodAll_nil r0
  obtain rfl : args = #[v0] := by cases args; simp_all
  obtain ⟨rfl, rfl⟩ := trodVars_none hV
  obtain ⟨cs0, rfl, _⟩ := okWide_struct Tryd.underlying25 (hval 0 25 v0 rfl rfl)
  have k0 := h0
  have lt0 : ∀ x ∈ p0, x.block < W.heap.size := by obtain ⟨m, hm⟩ := k0; exact DataW.trod_lt m _ _ _ hm
  have walk : Calls Tryd.prog 3 #[.agg cs0] W fun e w' => e = .returned (.bool true) ∧ Below W.heap.size W w' := by
    have reach : ∀ (n : Nat), decide (n ≤ reachBytes) = true → n ≤ 140737488351232 := fun n hm => by
      have hm2 : n ≤ reachBytes := of_decide_eq_true hm
      rw [show reachBytes = 140737488351232 from rfl] at hm2
      exact hm2
    obtain ⟨fuel0, hf0⟩ := h0
    obtain ⟨en0, ac0, cc0, C0, ae0, ce0, E0, hcs0, hcC0, hnC0, hC0, hlC0, hmC0, hcE0, hnE0, hE0, hlE0⟩ := prog_open hf0 (fun n hn => reach n (List.all_eq_true.1 hsz _ (DataW.weights_mem_each (j := 0) rfl rfl _ hn)))
    have e0 : cs0 = #[.bool en0, .slice ac0 C0.length cc0, .slice ae0 E0.length ce0] := by
      have : cs0.toList = [.bool en0, .slice ac0 C0.length cc0, .slice ae0 E0.length ce0] := hcs0
      exact Array.toList_inj.1 this
    subst e0
    exact codeExact_any en0 ac0 ae0 cc0 ce0 C0 E0 W (by omega) (by omega) hcC0 hcE0 hnC0 hnE0 (hide_ hC0) (hide_ hE0) (hide_ (tab_here hL))
  clear hA0
  refine walk.mono fun e W' ⟨he, bel⟩ => ?_
  subst he
  exact ⟨_, rfl, _, _, _, [], _, [], hW', trodAll_mk1 (shut_bool Tryd.underlying4 _), (trodAll_cons_mk (Below.trod laidOut (by kernel_rfl) (of_decide_eq_true (by kernel_rfl)) k0 bel lt0) trodAll_mk0), rfl, bel.frame _, fun h => by cases h⟩

def wit : Array Value := #[.agg #[.bool false, .slice none 0 0, .slice none 0 0]]
theorem laid_met (os : Os) : laidMet Tryd.prog Rows.codeExactRow.laid ((laidIn (World.holding Tryd.prog os ⟨#[], #[], []⟩)).forCall (fun _ _ => 0) ⟨#[], wit, []⟩).memory :=
  laidMet_of_run' 8 (by kernel_rfl) (by kernel_rfl)
theorem reads (os : Os) {H : Type} (enc : TypeId × Value → H) : ∃ ds places, DataW.whole enc Tryd.prog ((laidIn (World.holding Tryd.prog os ⟨#[], #[], []⟩)).forCall (fun _ _ => 0) ⟨#[], wit, []⟩).memory Tryd.f3.params.toList Rows.codeExactSpec.vars false wit.toList 8 = some (ds, [], places) :=
  ⟨[.agg [.lit (.bool false), .nil, .nil]], [], by kernel_rfl⟩

set_option maxRecDepth 100000 in
theorem lifted (os : Os) (started : os.Started) (H : Type) (enc : TypeId × Value → H) (F : Stop.Interp) :
    ReturnsInHanded {} Tryd.checked os 3 .any ((OpenSpec.ofChange Rows.codeExactSpec).preRow enc Tryd.prog Tryd.f3 Rows.codeExactRow.domain false Rows.codeExactRow.laid) (((OpenSpec.ofChange Rows.codeExactSpec).at F).post enc Tryd.prog Tryd.f3 false true false false) := by
  obtain ⟨ds, places, hx⟩ := reads os enc
  refine returnsInHanded_of_row (C := Tryd.checked) (s := OpenSpec.ofChange Rows.codeExactSpec) own started (by kernel_rfl) Tryd.func3
    (witness_row_at (enc := enc) (C := Tryd.checked) false (laidIn (World.holding Tryd.prog os ⟨#[], #[], []⟩)) wit rfl (by kernel_rfl) (by kernel_rfl) (by kernel_rfl)
      (OpenSpec.preRow_of_cond 8 hx (by kernel_rfl) (fun k hk => by cases hk) (by kernel_rfl) (laid_met os))) ?_
  intro W base args ds gs before hval hW _ _ hsz hL _ _
  exact contract H enc W base args ds gs before hval hW hsz hL

theorem said : Rows.CodeExactSaid :=
  OpenClaim.holds_of_cond 3 Tryd.f3 rfl rfl rfl rfl rfl rfl rfl ⟨rfl, rfl, rfl, rfl, rfl⟩ rfl rfl rfl rfl rfl (by kernel_rfl) Tryd.func3 (by kernel_rfl)
    (of_decide_eq_true (by kernel_rfl)) (by unfold Func.isWrapper; first | (rw [if_pos (by decide +kernel)]; kernel_rfl) | (rw [if_neg (by decide +kernel)]; exact ⟨rfl, rfl⟩))
    (fun os started H enc _ F => by rw [OpenClaim.pre_eq_preRow]; exact lifted os started H enc F)

theorem plain (f : FuncId) (fn : Func) (hf : Tryd.pinned.checked.prog.funcNamed "mortise/mortiselaw14.CodeExact" = some f) (hfn : Tryd.pinned.checked.prog.funcs[f]? = some fn) :
    false = Tryd.pinned.checked.prog.looks [] ∧ ∀ (j : Nat) t, fn.params[j]? = some t → Tryd.pinned.checked.prog.wantsStandIn t = false := by
  obtain rfl : f = 3 := Option.some.inj ((show Tryd.prog.funcNamed "mortise/mortiselaw14.CodeExact" = some 3 by kernel_rfl).symm.trans hf) |>.symm
  obtain rfl : fn = Tryd.f3 := (Option.some.inj (Tryd.func3.symm.trans hfn)).symm
  refine ⟨by kernel_rfl, fun j t ht => ?_⟩
  rw [Tryd.params3] at ht
  have hm := Array.mem_of_getElem? ht
  simp only [List.mem_toArray, List.mem_cons, List.not_mem_nil, or_false] at hm
  rcases hm with rfl <;> (show Tryd.prog.wantsStandIn _ = false; kernel_rfl)

theorem card : Rows.CodeExactCardSaid :=
  Claim7.holds_tied_plain_at .later [] _ _ _ _ said (fun _ h => by cases h) (by kernel_rfl) (fun _ h => by cases h) codeExact_row_tie rfl ⟨rfl, rfl⟩ (by kernel_rfl) rfl plain (by kernel_rfl)
end Go.Proofs.YteadmiikenpjeaaDoor.codeExact
namespace Go.Proofs.YteadmiikenpjeaaDoor
theorem codeExact_holds : Rows.CodeExactCardSaid := codeExact.card
#print axioms codeExact_holds
end Go.Proofs.YteadmiikenpjeaaDoor
