/- Code: the document's forms: Of. -/
import Derived.Test.YteadmiikenpjeaaDoorCdt
namespace Go.Proofs.YteadmiikenpjeaaDoor
open Go.RowKit
set_option linter.unusedVariables false

def ofI (op : Int) : List UInt8 :=
  if op = 1 then [107, 119, 32] else if op = 2 then [75, 109, 119] else if op = 3 then [107, 32, 32] else if op = 4 then [107, 32, 32] else if op = 5 then [32, 32, 32] else if op = 6 then [32, 32, 32] else if op = 7 then [32, 116, 32] else if op = 8 then [97, 32, 32] else if op = 9 then [103, 116, 32] else if op = 10 then [102, 32, 32] else if op = 11 then [110, 116, 32] else if op = 12 then [32, 116, 32] else if op = 13 then [110, 116, 32] else if op = 14 then [110, 116, 32] else if op = 15 then [32, 116, 32] else if op = 16 then [107, 32, 121] else if op = 17 then [107, 112, 121] else if op = 18 then [112, 32, 32] else if op = 19 then [32, 116, 32] else if op = 20 then [32, 32, 32] else if op = 33 then [76, 119, 32] else if op = 34 then [108, 109, 119] else if op = 35 then [76, 32, 32] else if op = 36 then [32, 32, 32] else if op = 37 then [110, 32, 32] else if op = 38 then [110, 32, 32] else if op = 39 then [115, 32, 32] else if op = 40 then [32, 116, 32] else if op = 41 then [97, 32, 32] else if op = 42 then [114, 32, 32] else if op = 43 then [76, 32, 32] else if op = 44 then [108, 32, 121] else if op = 45 then [122, 32, 121] else if op = 46 then [32, 32, 121] else [32, 116, 32]
def ofN (op : Int) (enc : Bool) : ByteArray := ⟨(if isOf op enc then nmT op else []).toArray⟩
def ofL (op : Int) (enc : Bool) : ByteArray := ⟨(if isOf op enc then ofI op else []).toArray⟩
theorem wr2o {w : World} {g : Nat} {x y : Value} (h : Blk w g 52 [x, y]) (u v : Value) : Blk ((w.setCell ⟨g, 0, none⟩ u).setCell ⟨g, 1, none⟩ v) g 52 [u, v] := by
  have := (h.set 0 u).set 1 v
  simpa using this
theorem retOf {fn : Func} {p u : Tmp} (h : fn.results = #[.cell p 52, .tmp u]) {R : Ending → World → Prop} {tmps : Array Value} {g : Nat} {w : World} {x y v : Value} (hu : tmps.getD u undef = v) (hp : tmps.getD p undef = .pointer (some ⟨g, 0, none⟩)) (hK : Blk w g 52 [x, y]) (hR : R (.returned (.tuple #[.agg #[x, y], v])) w) :
    bodyPost Tryd.prog fn R Exit.ret ⟨tmps, []⟩ w :=
  bodyPost_ret (results_cell_tmp_row h _ _ _ _ #[x, y] _ _ hp (show w.heap[g]? = some (.cells #[x, y] 52 (0, 0)) from hK) Tryd.underlying52 rfl (by show _ = some 2; kernel_rfl)) rfl (by rw [hu]; exact hR)
def dFm : List Value := [.string ⟨#[]⟩, .string ⟨#[]⟩, .string ⟨#[117, 105, 110, 116]⟩, .string ⟨#[107, 119, 32]⟩, .string ⟨#[117, 105, 110, 116, 115]⟩, .string ⟨#[75, 109, 119]⟩, .string ⟨#[98, 111, 111, 108]⟩, .string ⟨#[107, 32, 32]⟩, .string ⟨#[118, 97, 114, 105, 110, 116]⟩, .string ⟨#[107, 32, 32]⟩, .string ⟨#[115, 101, 113]⟩, .string ⟨#[32, 32, 32]⟩, .string ⟨#[115, 116, 114, 117, 99, 116]⟩, .string ⟨#[32, 32, 32]⟩, .string ⟨#[111, 112, 116, 105, 111, 110]⟩, .string ⟨#[32, 116, 32]⟩, .string ⟨#[117, 110, 105, 111, 110]⟩, .string ⟨#[97, 32, 32]⟩, .string ⟨#[97, 114, 109]⟩, .string ⟨#[103, 116, 32]⟩, .string ⟨#[111, 102, 102, 115, 101, 116]⟩, .string ⟨#[102, 32, 32]⟩, .string ⟨#[102, 105, 114, 115, 116]⟩, .string ⟨#[110, 116, 32]⟩, .string ⟨#[115, 108, 111, 116, 115]⟩, .string ⟨#[32, 116, 32]⟩, .string ⟨#[105, 116, 101, 109]⟩, .string ⟨#[110, 116, 32]⟩, .string ⟨#[108, 101, 115, 115]⟩, .string ⟨#[110, 116, 32]⟩, .string ⟨#[112, 97, 114, 116, 115]⟩, .string ⟨#[32, 116, 32]⟩, .string ⟨#[99, 97, 108, 108]⟩, .string ⟨#[107, 32, 121]⟩, .string ⟨#[112, 97, 114, 116]⟩, .string ⟨#[107, 112, 121]⟩, .string ⟨#[116, 97, 105, 108]⟩, .string ⟨#[112, 32, 32]⟩, .string ⟨#[106, 117, 109, 112]⟩, .string ⟨#[32, 116, 32]⟩, .string ⟨#[114, 101, 116]⟩, .string ⟨#[32, 32, 32]⟩]
def cFm : List Value := [.string ⟨#[110, 117, 109, 98, 101, 114]⟩, .string ⟨#[76, 119, 32]⟩, .string ⟨#[110, 117, 109, 98, 101, 114, 115]⟩, .string ⟨#[108, 109, 119]⟩, .string ⟨#[102, 108, 97, 103]⟩, .string ⟨#[76, 32, 32]⟩, .string ⟨#[108, 101, 98]⟩, .string ⟨#[32, 32, 32]⟩, .string ⟨#[109, 97, 110, 121]⟩, .string ⟨#[110, 32, 32]⟩, .string ⟨#[117, 112, 116, 111]⟩, .string ⟨#[110, 32, 32]⟩, .string ⟨#[102, 105, 101, 108, 100, 115]⟩, .string ⟨#[115, 32, 32]⟩, .string ⟨#[109, 97, 121, 98, 101]⟩, .string ⟨#[32, 116, 32]⟩, .string ⟨#[99, 104, 111, 105, 99, 101]⟩, .string ⟨#[97, 32, 32]⟩, .string ⟨#[114, 111, 111, 109]⟩, .string ⟨#[114, 32, 32]⟩, .string ⟨#[115, 108, 111, 116]⟩, .string ⟨#[76, 32, 32]⟩, .string ⟨#[101, 110, 116, 101, 114]⟩, .string ⟨#[108, 32, 121]⟩, .string ⟨#[101, 97, 99, 104]⟩, .string ⟨#[122, 32, 121]⟩, .string ⟨#[97, 112, 112, 101, 110, 100]⟩, .string ⟨#[32, 32, 121]⟩, .string ⟨#[97, 103, 97, 105, 110]⟩, .string ⟨#[32, 116, 32]⟩]
set_option maxRecDepth 100000 in
set_option maxHeartbeats 16000000 in
theorem of_any (op : Int) (enc : Bool) (w : World) : Calls Tryd.prog 20 #[.int .i64 op, .bool enc] w fun e w' => e = .returned (.tuple #[.agg #[.string (ofN op enc), .string (ofL op enc)], .bool (isOf op enc)]) ∧ Below w.heap.size w w' := by
  obtain ⟨w1, hw1⟩ : ∃ wx, wx = w.alloc (.cells #[.string ⟨#[]⟩, .string ⟨#[]⟩] 52) := ⟨_, rfl⟩
  have hB1 : Below w.heap.size w w1 := by rw [hw1]; exact below1 _ _
  have K1 : Hid (Blk w1 w.heap.size 52 [.string ⟨#[]⟩, .string ⟨#[]⟩]) := hide_ (by rw [hw1]; exact Blk.newA w _ _)
  have HB1 := hide_ hB1
  obtain ⟨oN, hoN⟩ : ∃ x, ofN op enc = x := ⟨_, rfl⟩
  obtain ⟨oL, hoL⟩ : ∃ x, ofL op enc = x := ⟨_, rfl⟩
  obtain ⟨oB, hoB⟩ : ∃ x, isOf op enc = x := ⟨_, rfl⟩
  rw [hoN, hoL, hoB]
  have HoN := hide_ hoN
  have HoL := hide_ hoL
  have HoB := hide_ hoB
  clear hoN hoL hoB hB1
  go_enter Tryd.func20, Tryd.ntmps20
  go_upto_region 1 with fail
  rw [← hw1]
  clear hw1
  go_cut [6] from 8 to 29 (fun x6 wc => ∃ (gd : Nat) (wf : World), wf = wc ∧ x6 = .slice (some ⟨gd, 0, none⟩) 21 21 ∧ Hid (Blk wf gd 52 dFm) ∧ Hid (Below w1.heap.size w1 wf))
  case first =>
    go_wp2
    go_meet
    case rel => exact ⟨_, _, rfl, rfl, hide_ (Blk.newA w1 _ _), hide_ (below1 _ _)⟩
  case rest =>
  obtain ⟨gd, w2, rfl, rfl, KD2, HB2⟩ := hcut
  go_upto_region 2 with fail
  go_cut [7] from 30 to 45 (fun x7 wc => ∃ (gc : Nat) (wf : World), wf = wc ∧ x7 = .slice (some ⟨gc, 0, none⟩) 15 15 ∧ Hid (Blk wf gc 52 cFm) ∧ Hid (Below w2.heap.size w2 wf))
  case first =>
    go_wp2
    go_meet
    case rel => exact ⟨_, _, rfl, rfl, hide_ (Blk.newA w2 _ _), hide_ (below1 _ _)⟩
  case rest =>
  obtain ⟨gc, w3, rfl, rfl, KC, HB3⟩ := hcut
  have KD := hide_ (KD2.out.later HB3.out)
  have K0 := hide_ (K1.out.later (below_to HB2.out HB3.out))
  have HB := hide_ (below_to HB1.out (below_to HB2.out HB3.out))
  have k0 := K0.out.cell 0; have k1 := K0.out.cell 1
  have kz := fun i => K0.out.frozen i
  simp at k0 k1
  clear KD2 HB2 HB3 K1 HB1
  cases oB with
  | true =>
    have h := HoB.out
    unfold isOf at h
    clear HoB
    cases enc with
    | false =>
      have hd : op = 1 ∨ op = 2 ∨ op = 3 ∨ op = 4 ∨ op = 5 ∨ op = 6 ∨ op = 7 ∨ op = 8 ∨ op = 9 ∨ op = 10 ∨ op = 11 ∨ op = 12 ∨ op = 13 ∨ op = 14 ∨ op = 15 ∨ op = 16 ∨ op = 17 ∨ op = 18 ∨ op = 19 ∨ op = 20 := by simp at h; omega
      clear h
      rcases hd with rfl | rfl | rfl | rfl | rfl | rfl | rfl | rfl | rfl | rfl | rfl | rfl | rfl | rfl | rfl | rfl | rfl | rfl | rfl | rfl
      · have c0 := KD.out.cell 2; have c1 := KD.out.cell 3
        simp [dFm] at c0 c1
        go_wp2
        refine retOf rfl rfl rfl (wr2o K0.out _ _) ?_
        exact ⟨by rw [← HoN.out, ← HoL.out]; rfl, below_set (below_set HB.out _ _ _ (Nat.le_refl _)) _ _ _ (Nat.le_refl _)⟩
      · have c0 := KD.out.cell 4; have c1 := KD.out.cell 5
        simp [dFm] at c0 c1
        go_wp2
        refine retOf rfl rfl rfl (wr2o K0.out _ _) ?_
        exact ⟨by rw [← HoN.out, ← HoL.out]; rfl, below_set (below_set HB.out _ _ _ (Nat.le_refl _)) _ _ _ (Nat.le_refl _)⟩
      · have c0 := KD.out.cell 6; have c1 := KD.out.cell 7
        simp [dFm] at c0 c1
        go_wp2
        refine retOf rfl rfl rfl (wr2o K0.out _ _) ?_
        exact ⟨by rw [← HoN.out, ← HoL.out]; rfl, below_set (below_set HB.out _ _ _ (Nat.le_refl _)) _ _ _ (Nat.le_refl _)⟩
      · have c0 := KD.out.cell 8; have c1 := KD.out.cell 9
        simp [dFm] at c0 c1
        go_wp2
        refine retOf rfl rfl rfl (wr2o K0.out _ _) ?_
        exact ⟨by rw [← HoN.out, ← HoL.out]; rfl, below_set (below_set HB.out _ _ _ (Nat.le_refl _)) _ _ _ (Nat.le_refl _)⟩
      · have c0 := KD.out.cell 10; have c1 := KD.out.cell 11
        simp [dFm] at c0 c1
        go_wp2
        refine retOf rfl rfl rfl (wr2o K0.out _ _) ?_
        exact ⟨by rw [← HoN.out, ← HoL.out]; rfl, below_set (below_set HB.out _ _ _ (Nat.le_refl _)) _ _ _ (Nat.le_refl _)⟩
      · have c0 := KD.out.cell 12; have c1 := KD.out.cell 13
        simp [dFm] at c0 c1
        go_wp2
        refine retOf rfl rfl rfl (wr2o K0.out _ _) ?_
        exact ⟨by rw [← HoN.out, ← HoL.out]; rfl, below_set (below_set HB.out _ _ _ (Nat.le_refl _)) _ _ _ (Nat.le_refl _)⟩
      · have c0 := KD.out.cell 14; have c1 := KD.out.cell 15
        simp [dFm] at c0 c1
        go_wp2
        refine retOf rfl rfl rfl (wr2o K0.out _ _) ?_
        exact ⟨by rw [← HoN.out, ← HoL.out]; rfl, below_set (below_set HB.out _ _ _ (Nat.le_refl _)) _ _ _ (Nat.le_refl _)⟩
      · have c0 := KD.out.cell 16; have c1 := KD.out.cell 17
        simp [dFm] at c0 c1
        go_wp2
        refine retOf rfl rfl rfl (wr2o K0.out _ _) ?_
        exact ⟨by rw [← HoN.out, ← HoL.out]; rfl, below_set (below_set HB.out _ _ _ (Nat.le_refl _)) _ _ _ (Nat.le_refl _)⟩
      · have c0 := KD.out.cell 18; have c1 := KD.out.cell 19
        simp [dFm] at c0 c1
        go_wp2
        refine retOf rfl rfl rfl (wr2o K0.out _ _) ?_
        exact ⟨by rw [← HoN.out, ← HoL.out]; rfl, below_set (below_set HB.out _ _ _ (Nat.le_refl _)) _ _ _ (Nat.le_refl _)⟩
      · have c0 := KD.out.cell 20; have c1 := KD.out.cell 21
        simp [dFm] at c0 c1
        go_wp2
        refine retOf rfl rfl rfl (wr2o K0.out _ _) ?_
        exact ⟨by rw [← HoN.out, ← HoL.out]; rfl, below_set (below_set HB.out _ _ _ (Nat.le_refl _)) _ _ _ (Nat.le_refl _)⟩
      · have c0 := KD.out.cell 22; have c1 := KD.out.cell 23
        simp [dFm] at c0 c1
        go_wp2
        refine retOf rfl rfl rfl (wr2o K0.out _ _) ?_
        exact ⟨by rw [← HoN.out, ← HoL.out]; rfl, below_set (below_set HB.out _ _ _ (Nat.le_refl _)) _ _ _ (Nat.le_refl _)⟩
      · have c0 := KD.out.cell 24; have c1 := KD.out.cell 25
        simp [dFm] at c0 c1
        go_wp2
        refine retOf rfl rfl rfl (wr2o K0.out _ _) ?_
        exact ⟨by rw [← HoN.out, ← HoL.out]; rfl, below_set (below_set HB.out _ _ _ (Nat.le_refl _)) _ _ _ (Nat.le_refl _)⟩
      · have c0 := KD.out.cell 26; have c1 := KD.out.cell 27
        simp [dFm] at c0 c1
        go_wp2
        refine retOf rfl rfl rfl (wr2o K0.out _ _) ?_
        exact ⟨by rw [← HoN.out, ← HoL.out]; rfl, below_set (below_set HB.out _ _ _ (Nat.le_refl _)) _ _ _ (Nat.le_refl _)⟩
      · have c0 := KD.out.cell 28; have c1 := KD.out.cell 29
        simp [dFm] at c0 c1
        go_wp2
        refine retOf rfl rfl rfl (wr2o K0.out _ _) ?_
        exact ⟨by rw [← HoN.out, ← HoL.out]; rfl, below_set (below_set HB.out _ _ _ (Nat.le_refl _)) _ _ _ (Nat.le_refl _)⟩
      · have c0 := KD.out.cell 30; have c1 := KD.out.cell 31
        simp [dFm] at c0 c1
        go_wp2
        refine retOf rfl rfl rfl (wr2o K0.out _ _) ?_
        exact ⟨by rw [← HoN.out, ← HoL.out]; rfl, below_set (below_set HB.out _ _ _ (Nat.le_refl _)) _ _ _ (Nat.le_refl _)⟩
      · have c0 := KD.out.cell 32; have c1 := KD.out.cell 33
        simp [dFm] at c0 c1
        go_wp2
        refine retOf rfl rfl rfl (wr2o K0.out _ _) ?_
        exact ⟨by rw [← HoN.out, ← HoL.out]; rfl, below_set (below_set HB.out _ _ _ (Nat.le_refl _)) _ _ _ (Nat.le_refl _)⟩
      · have c0 := KD.out.cell 34; have c1 := KD.out.cell 35
        simp [dFm] at c0 c1
        go_wp2
        refine retOf rfl rfl rfl (wr2o K0.out _ _) ?_
        exact ⟨by rw [← HoN.out, ← HoL.out]; rfl, below_set (below_set HB.out _ _ _ (Nat.le_refl _)) _ _ _ (Nat.le_refl _)⟩
      · have c0 := KD.out.cell 36; have c1 := KD.out.cell 37
        simp [dFm] at c0 c1
        go_wp2
        refine retOf rfl rfl rfl (wr2o K0.out _ _) ?_
        exact ⟨by rw [← HoN.out, ← HoL.out]; rfl, below_set (below_set HB.out _ _ _ (Nat.le_refl _)) _ _ _ (Nat.le_refl _)⟩
      · have c0 := KD.out.cell 38; have c1 := KD.out.cell 39
        simp [dFm] at c0 c1
        go_wp2
        refine retOf rfl rfl rfl (wr2o K0.out _ _) ?_
        exact ⟨by rw [← HoN.out, ← HoL.out]; rfl, below_set (below_set HB.out _ _ _ (Nat.le_refl _)) _ _ _ (Nat.le_refl _)⟩
      · have c0 := KD.out.cell 40; have c1 := KD.out.cell 41
        simp [dFm] at c0 c1
        go_wp2
        refine retOf rfl rfl rfl (wr2o K0.out _ _) ?_
        exact ⟨by rw [← HoN.out, ← HoL.out]; rfl, below_set (below_set HB.out _ _ _ (Nat.le_refl _)) _ _ _ (Nat.le_refl _)⟩
    | true =>
      have hd : op = 9 ∨ op = 19 ∨ op = 20 ∨ op = 33 ∨ op = 34 ∨ op = 35 ∨ op = 36 ∨ op = 37 ∨ op = 38 ∨ op = 39 ∨ op = 40 ∨ op = 41 ∨ op = 42 ∨ op = 43 ∨ op = 44 ∨ op = 45 ∨ op = 46 ∨ op = 47 := by simp at h; omega
      clear h
      rcases hd with rfl | rfl | rfl | rfl | rfl | rfl | rfl | rfl | rfl | rfl | rfl | rfl | rfl | rfl | rfl | rfl | rfl | rfl
      · have c0 := KD.out.cell 18; have c1 := KD.out.cell 19
        simp [dFm] at c0 c1
        go_wp2
        refine retOf rfl rfl rfl (wr2o K0.out _ _) ?_
        exact ⟨by rw [← HoN.out, ← HoL.out]; rfl, below_set (below_set HB.out _ _ _ (Nat.le_refl _)) _ _ _ (Nat.le_refl _)⟩
      · have c0 := KD.out.cell 38; have c1 := KD.out.cell 39
        simp [dFm] at c0 c1
        go_wp2
        refine retOf rfl rfl rfl (wr2o K0.out _ _) ?_
        exact ⟨by rw [← HoN.out, ← HoL.out]; rfl, below_set (below_set HB.out _ _ _ (Nat.le_refl _)) _ _ _ (Nat.le_refl _)⟩
      · have c0 := KD.out.cell 40; have c1 := KD.out.cell 41
        simp [dFm] at c0 c1
        go_wp2
        refine retOf rfl rfl rfl (wr2o K0.out _ _) ?_
        exact ⟨by rw [← HoN.out, ← HoL.out]; rfl, below_set (below_set HB.out _ _ _ (Nat.le_refl _)) _ _ _ (Nat.le_refl _)⟩
      · have c0 := KC.out.cell 0; have c1 := KC.out.cell 1
        simp [cFm] at c0 c1
        go_wp2
        refine retOf rfl rfl rfl (wr2o K0.out _ _) ?_
        exact ⟨by rw [← HoN.out, ← HoL.out]; rfl, below_set (below_set HB.out _ _ _ (Nat.le_refl _)) _ _ _ (Nat.le_refl _)⟩
      · have c0 := KC.out.cell 2; have c1 := KC.out.cell 3
        simp [cFm] at c0 c1
        go_wp2
        refine retOf rfl rfl rfl (wr2o K0.out _ _) ?_
        exact ⟨by rw [← HoN.out, ← HoL.out]; rfl, below_set (below_set HB.out _ _ _ (Nat.le_refl _)) _ _ _ (Nat.le_refl _)⟩
      · have c0 := KC.out.cell 4; have c1 := KC.out.cell 5
        simp [cFm] at c0 c1
        go_wp2
        refine retOf rfl rfl rfl (wr2o K0.out _ _) ?_
        exact ⟨by rw [← HoN.out, ← HoL.out]; rfl, below_set (below_set HB.out _ _ _ (Nat.le_refl _)) _ _ _ (Nat.le_refl _)⟩
      · have c0 := KC.out.cell 6; have c1 := KC.out.cell 7
        simp [cFm] at c0 c1
        go_wp2
        refine retOf rfl rfl rfl (wr2o K0.out _ _) ?_
        exact ⟨by rw [← HoN.out, ← HoL.out]; rfl, below_set (below_set HB.out _ _ _ (Nat.le_refl _)) _ _ _ (Nat.le_refl _)⟩
      · have c0 := KC.out.cell 8; have c1 := KC.out.cell 9
        simp [cFm] at c0 c1
        go_wp2
        refine retOf rfl rfl rfl (wr2o K0.out _ _) ?_
        exact ⟨by rw [← HoN.out, ← HoL.out]; rfl, below_set (below_set HB.out _ _ _ (Nat.le_refl _)) _ _ _ (Nat.le_refl _)⟩
      · have c0 := KC.out.cell 10; have c1 := KC.out.cell 11
        simp [cFm] at c0 c1
        go_wp2
        refine retOf rfl rfl rfl (wr2o K0.out _ _) ?_
        exact ⟨by rw [← HoN.out, ← HoL.out]; rfl, below_set (below_set HB.out _ _ _ (Nat.le_refl _)) _ _ _ (Nat.le_refl _)⟩
      · have c0 := KC.out.cell 12; have c1 := KC.out.cell 13
        simp [cFm] at c0 c1
        go_wp2
        refine retOf rfl rfl rfl (wr2o K0.out _ _) ?_
        exact ⟨by rw [← HoN.out, ← HoL.out]; rfl, below_set (below_set HB.out _ _ _ (Nat.le_refl _)) _ _ _ (Nat.le_refl _)⟩
      · have c0 := KC.out.cell 14; have c1 := KC.out.cell 15
        simp [cFm] at c0 c1
        go_wp2
        refine retOf rfl rfl rfl (wr2o K0.out _ _) ?_
        exact ⟨by rw [← HoN.out, ← HoL.out]; rfl, below_set (below_set HB.out _ _ _ (Nat.le_refl _)) _ _ _ (Nat.le_refl _)⟩
      · have c0 := KC.out.cell 16; have c1 := KC.out.cell 17
        simp [cFm] at c0 c1
        go_wp2
        refine retOf rfl rfl rfl (wr2o K0.out _ _) ?_
        exact ⟨by rw [← HoN.out, ← HoL.out]; rfl, below_set (below_set HB.out _ _ _ (Nat.le_refl _)) _ _ _ (Nat.le_refl _)⟩
      · have c0 := KC.out.cell 18; have c1 := KC.out.cell 19
        simp [cFm] at c0 c1
        go_wp2
        refine retOf rfl rfl rfl (wr2o K0.out _ _) ?_
        exact ⟨by rw [← HoN.out, ← HoL.out]; rfl, below_set (below_set HB.out _ _ _ (Nat.le_refl _)) _ _ _ (Nat.le_refl _)⟩
      · have c0 := KC.out.cell 20; have c1 := KC.out.cell 21
        simp [cFm] at c0 c1
        go_wp2
        refine retOf rfl rfl rfl (wr2o K0.out _ _) ?_
        exact ⟨by rw [← HoN.out, ← HoL.out]; rfl, below_set (below_set HB.out _ _ _ (Nat.le_refl _)) _ _ _ (Nat.le_refl _)⟩
      · have c0 := KC.out.cell 22; have c1 := KC.out.cell 23
        simp [cFm] at c0 c1
        go_wp2
        refine retOf rfl rfl rfl (wr2o K0.out _ _) ?_
        exact ⟨by rw [← HoN.out, ← HoL.out]; rfl, below_set (below_set HB.out _ _ _ (Nat.le_refl _)) _ _ _ (Nat.le_refl _)⟩
      · have c0 := KC.out.cell 24; have c1 := KC.out.cell 25
        simp [cFm] at c0 c1
        go_wp2
        refine retOf rfl rfl rfl (wr2o K0.out _ _) ?_
        exact ⟨by rw [← HoN.out, ← HoL.out]; rfl, below_set (below_set HB.out _ _ _ (Nat.le_refl _)) _ _ _ (Nat.le_refl _)⟩
      · have c0 := KC.out.cell 26; have c1 := KC.out.cell 27
        simp [cFm] at c0 c1
        go_wp2
        refine retOf rfl rfl rfl (wr2o K0.out _ _) ?_
        exact ⟨by rw [← HoN.out, ← HoL.out]; rfl, below_set (below_set HB.out _ _ _ (Nat.le_refl _)) _ _ _ (Nat.le_refl _)⟩
      · have c0 := KC.out.cell 28; have c1 := KC.out.cell 29
        simp [cFm] at c0 c1
        go_wp2
        refine retOf rfl rfl rfl (wr2o K0.out _ _) ?_
        exact ⟨by rw [← HoN.out, ← HoL.out]; rfl, below_set (below_set HB.out _ _ _ (Nat.le_refl _)) _ _ _ (Nat.le_refl _)⟩
  | false =>
    cases enc with
    | true =>
      have hN : oN = ⟨#[]⟩ := by rw [← HoN.out]; unfold ofN; rw [HoB.out]; rfl
      have hL : oL = ⟨#[]⟩ := by rw [← HoL.out]; unfold ofL; rw [HoB.out]; rfl
      have h := HoB.out
      unfold isOf at h
      simp at h
      obtain ⟨⟨⟨h9, h19⟩, h20⟩, hr⟩ := h
      have b9 : (op == 9) = false := by simpa using h9
      have b19 : (op == 19) = false := by simpa using h19
      have b20 : (op == 20) = false := by simpa using h20
      subst hN hL
      clear HoN HoL HoB h9 h19 h20
      by_cases h33 : 33 ≤ op
      · have h47 := hr h33
        have h47' : ¬ op ≤ 47 := by omega
        clear hr h47
        go_wp2
        refine retOf rfl rfl rfl (wr2o K0.out _ _) ?_
        exact ⟨rfl, below_set (below_set HB.out _ _ _ (Nat.le_refl _)) _ _ _ (Nat.le_refl _)⟩
      · clear hr
        go_wp2
        refine retOf rfl rfl rfl (wr2o K0.out _ _) ?_
        exact ⟨rfl, below_set (below_set HB.out _ _ _ (Nat.le_refl _)) _ _ _ (Nat.le_refl _)⟩
    | false =>
      have hN : oN = ⟨#[]⟩ := by rw [← HoN.out]; unfold ofN; rw [HoB.out]; rfl
      have hL : oL = ⟨#[]⟩ := by rw [← HoL.out]; unfold ofL; rw [HoB.out]; rfl
      have h := HoB.out
      unfold isOf at h
      simp at h
      obtain ⟨⟨⟨h9, h19⟩, h20⟩, hr⟩ := h
      have b9 : (op == 9) = false := by simpa using h9
      have b19 : (op == 19) = false := by simpa using h19
      have b20 : (op == 20) = false := by simpa using h20
      subst hN hL
      clear HoN HoL HoB h9 h19 h20
      by_cases h33 : 1 ≤ op
      · have h47 := hr h33
        have h47' : ¬ op ≤ 20 := by omega
        clear hr h47
        go_wp2
        refine retOf rfl rfl rfl (wr2o K0.out _ _) ?_
        exact ⟨rfl, below_set (below_set HB.out _ _ _ (Nat.le_refl _)) _ _ _ (Nat.le_refl _)⟩
      · clear hr
        go_wp2
        refine retOf rfl rfl rfl (wr2o K0.out _ _) ?_
        exact ⟨rfl, below_set (below_set HB.out _ _ _ (Nat.le_refl _)) _ _ _ (Nat.le_refl _)⟩
end Go.Proofs.YteadmiikenpjeaaDoor
