import Derived.Test.YtfgdkhmoikkgjaaPart49
import Derived.Test.YtfgdkhmoikkgjaaPart24
import Derived.Test.YtfgdkhmoikkgjaaPart22
import Derived.Test.YtfgdkhmoikkgjaaPart32
import Derived.Test.YtfgdkhmoikkgjaaPart28

/- The law's awake. -/
namespace Go.Proofs.Ytfgdkhmoikkgjaa
open Go.RowKit
set_option linter.unusedVariables false

theorem nrow_blk {w : World} {g : Nat} {N : List Nd} (h : Blk w g 40 (cellsN N)) : NRow w (some ⟨g, 0, none⟩) N :=
  .inr ⟨g, 0, rfl, h.lt, fun i x hx j hj => by rw [h.cell, Nat.zero_add]; exact cellsN_at N i j x hx hj⟩
theorem trow_plain {w : World} {g : Nat} {T : List Ty} (h : Blk w g 49 (cellsG (fun t => tyc t (.slice none 0 0)) T)) (hp : ∀ t ∈ T, t.ps = []) : TRowz w (some ⟨g, 0, none⟩) T := by
  have hg : GRow 4 (fun t => tyc t (.slice none 0 0)) w (some ⟨g, 0, none⟩) T := blk_grow (fun _ => rfl) h
  rcases hg with hg | ⟨b, o, e, hb, hc⟩
  · exact .inl hg
  · refine .inr ⟨b, o, e, hb, fun i t ht => ⟨none, 0, fun j hj => ?_, ?_, fun _ => rfl, .inl (hp t (List.mem_of_getElem? ht))⟩⟩
    · rw [hc i t ht j hj, hp t (List.mem_of_getElem? ht)]
      rfl
    · rw [hp t (List.mem_of_getElem? ht)]
      exact Nat.le_refl _
def exN : List Nd := [⟨5, 3, ⟨#[]⟩, ⟨#[]⟩, 0, 1, 0⟩, ⟨1, 2, ⟨#[]⟩, ⟨#[]⟩, 0, 0, 0⟩]
def exD : List Df := [⟨⟨#[97]⟩, 0, exN⟩]
def exT : List Ty := [⟨1, 2, 0, []⟩, ⟨5, 3, 0, []⟩]
def exR : List Rt := [⟨⟨#[97]⟩, 1⟩]
theorem ex_us : usD exD = [[]] := by rfl
theorem ex_acy : Acy (usD exD) := by
  rw [ex_us]
  intro i hl
  obtain ⟨n, hn⟩ := hl
  have key : ∀ n a b, ¬ Ld [[]] n a b := by
    intro n
    induction n with
    | zero => intro a b h; cases a <;> simp [Ld, us] at h
    | succ n ih => intro a b ⟨c, h1, h2⟩; exact ih c b h2
  exact key n i i hn
theorem ex_look : LookTo exD 0 0 [0] [2] := by
  refine lookTo_ok (by rfl) (by rfl) ex_acy ?_ rfl ⟨rfl, fun i d hd => ?_⟩ (fun j => ?_)
  · rw [ex_us]
    exact (Ordr.nil ([[]] : List (List Nat))).snoc (n := 0) (by decide) ⟨by simp, by simp [us]⟩ (fun m hm => by omega)
  · match i with
    | 0 => simp [exD] at hd; subst hd; rfl
    | i + 1 => simp [exD] at hd
  · match j with
    | 0 => decide
    | j + 1 => simp
theorem ex_build : BlTo exD exT exR 0 0 := by
  unfold BlTo
  rw [if_pos (by rfl)]
  refine ⟨0, 0, [0], [2], ex_look, ?_⟩
  rw [if_pos ⟨rfl, rfl⟩, if_pos (by rfl)]
  exact ⟨by rfl, by rfl, rfl, rfl⟩
theorem ex_chk : chk [⟨0, 0, 0, []⟩] [] = (92, 0) := by rfl
theorem ex_wt : Wt exD := ⟨by decide, fun d hd => by simp [exD] at hd; subst hd; decide⟩
theorem aE1 (k n d : Int) (w : World) : (Instr.build 40 #[(0, .int .i64 k), (1, .int .i64 n), (5, .int .i64 d)]).run Try.prog w = .ok (.agg #[.int .i64 k, .int .i64 n, .string ⟨#[]⟩, .string ⟨#[]⟩, .int .i64 0, .int .i64 d, .int .i64 0]) w := by kernel_rfl
theorem aE2 (k n : Int) (w : World) : (Instr.build 40 #[(0, .int .i64 k), (1, .int .i64 n)]).run Try.prog w = .ok (.agg #[.int .i64 k, .int .i64 n, .string ⟨#[]⟩, .string ⟨#[]⟩, .int .i64 0, .int .i64 0, .int .i64 0]) w := by kernel_rfl
theorem aD1 (s : ByteArray) (x : Option Addr) (n c : Nat) (w : World) : (Instr.build 43 #[(0, .string s), (2, .slice x n c)]).run Try.prog w = .ok (.agg #[.string s, .int .i64 0, .slice x n c]) w := by kernel_rfl
theorem aS1 (x : Option Addr) (n c : Nat) (w : World) : (Instr.build 46 #[(0, .slice x n c)]).run Try.prog w = .ok (.agg #[.slice x n c]) w := by kernel_rfl
theorem aR1 (s : ByteArray) (k : Int) (w : World) : (Instr.build 51 #[(0, .string s), (1, .int .i64 k)]).run Try.prog w = .ok (.agg #[.string s, .int .i64 k]) w := by kernel_rfl
theorem aT0 (w : World) : (Instr.build 49 #[]).run Try.prog w = .ok (.agg #[.int .i64 0, .int .i64 0, .int .i64 0, .slice none 0 0]) w := by kernel_rfl
theorem aC1 (x : Option Addr) (n c : Nat) (w : World) : (Instr.build 25 #[(0, .slice x n c)]).run Try.prog w = .ok (.agg #[.slice x n c, .slice none 0 0]) w := by kernel_rfl
theorem fldFz (a b : Value) (w : World) : (Instr.field 30 (.agg #[a, b]) 0).run Try.prog w = .ok a w := by kernel_rfl
set_option maxRecDepth 100000 in
set_option maxHeartbeats 8000000 in
theorem awake_any (w : World) : Calls Try.prog 4 #[] w fun e w' => e = .returned (.bool true) ∧ Below w.heap.size w w' := by
  have h1 := aE1; have h2 := aE2; have h3 := aD1; have h4 := aS1; have h5 := bldF0; have h6 := bldT; have h7 := aR1; have h8 := bldSc; have h9 := aT0; have h10 := aC1; have h11 := fldFz
  obtain ⟨W, hW⟩ : ∃ W, (w.alloc (.cells #[.int .i64 5, .int .i64 3, .string ⟨#[]⟩, .string ⟨#[]⟩, .int .i64 0, .int .i64 1, .int .i64 0, .int .i64 1, .int .i64 2, .string ⟨#[]⟩, .string ⟨#[]⟩, .int .i64 0, .int .i64 0, .int .i64 0] 40)).alloc (.cells #[.string ⟨#[97]⟩, .int .i64 0, .slice (some ⟨w.heap.size, 0, none⟩) 2 2] 43) = W := ⟨_, rfl⟩
  have hBW : Below w.heap.size w W := by rw [← hW]; exact below2z _ _ _
  have k0 : Blk W w.heap.size 40 (cellsN exN) := by rw [← hW]; exact (Blk.newA w _ _).alloc _
  have k1 : Blk W (w.heap.size + 1) 43 [.string ⟨#[97]⟩, .int .i64 0, .slice (some ⟨w.heap.size, 0, none⟩) 2 2] := by
    have h := Blk.newA (w.alloc (.cells #[.int .i64 5, .int .i64 3, .string ⟨#[]⟩, .string ⟨#[]⟩, .int .i64 0, .int .i64 1, .int .i64 0, .int .i64 1, .int .i64 2, .string ⟨#[]⟩, .string ⟨#[]⟩, .int .i64 0, .int .i64 0, .int .i64 0] 40)) #[.string ⟨#[97]⟩, .int .i64 0, .slice (some ⟨w.heap.size, 0, none⟩) 2 2] 43
    rw [hW, World.size_alloc] at h
    exact h
  have hDR : DRow W (some ⟨w.heap.size + 1, 0, none⟩) exD := .inr ⟨w.heap.size + 1, 0, rfl, k1.lt, fun i d hd => by
    match i with
    | 0 =>
      simp [exD] at hd
      subst hd
      refine ⟨some ⟨w.heap.size, 0, none⟩, 2, fun j hj => ?_, by decide, fun h => (by cases h), nrow_blk k0⟩
      rw [k1.cell]
      match j, hj with
      | 0, _ => rfl
      | 1, _ => rfl
      | 2, _ => rfl
    | i + 1 => simp [exD] at hd⟩
  have HC1 : Hid (Calls Try.prog 12 #[.agg #[.slice (some ⟨w.heap.size + 1, 0, none⟩) 1 1]] W fun e w' => BuTo exD exT exR 0 0 W e w') := hide_ (build_any (hide_ ex_build) (some ⟨w.heap.size + 1, 0, none⟩) 1 W (hide_ ex_wt) (hide_ (fun d hd => by simp [exD] at hd; subst hd; decide)) (hide_ hDR))
  have HBW := hide_ hBW
  clear k0 k1 hDR hBW
  go_enter Try.func4, Try.ntmps4
  go_upto_region 2 with (go_at_call 12; refine HC1.out.mono ?_; rintro e w1 ⟨x, n, p, y, m, q, rfl, HQ, hRo, hB1⟩; have HQ1 := hide_ HQ; have HRo := hide_ hRo; have HB1 := hide_ hB1; clear HQ hRo hB1)
  clear HC1 hW
  obtain ⟨Q, hQ, hQT⟩ := HQ1.out
  obtain ⟨x', p', e1, hT1⟩ := hQ.row
  rw [hQT] at e1 hT1
  obtain ⟨y', q', e2, -, -, hR1⟩ := own_grow rtc_len HRo.out
  obtain ⟨rfl, rfl, rfl⟩ : x = x' ∧ n = 2 ∧ p = p' := by injection e1 with a b c; exact ⟨a, b, c⟩
  obtain ⟨rfl, rfl, rfl⟩ : y = y' ∧ m = 1 ∧ q = q' := by injection e2 with a b c; exact ⟨a, b, c⟩
  clear e1 e2 hQ HQ1
  obtain ⟨w2, hw2⟩ : ∃ wx, wx = (w1.alloc (.cells #[.slice x 2 p, .slice y 1 q] 25)).alloc (.cells #[.int .i64 0, .int .i64 0] 30) := ⟨_, rfl⟩
  have hB2 : Below w1.heap.size w1 w2 := by rw [hw2]; exact below2z _ _ _
  obtain ⟨ks, kf⟩ := blk2z w1 #[.slice x 2 p, .slice y 1 q] #[.int .i64 0, .int .i64 0] 25 30
  rw [← hw2] at ks kf
  rw [← hw2]
  clear hw2
  obtain ⟨w3, hw3⟩ : ∃ wx, (w2.alloc (.cells #[.int .i64 1, .int .i64 2, .int .i64 0, .slice none 0 0, .int .i64 5, .int .i64 3, .int .i64 0, .slice none 0 0] 49)).alloc (.cells #[.string ⟨#[97]⟩, .int .i64 1] 51) = wx := ⟨_, rfl⟩
  have hB3 : Below w2.heap.size w2 w3 := by rw [← hw3]; exact below2z _ _ _
  obtain ⟨kt, kr⟩ := blk2z w2 #[.int .i64 1, .int .i64 2, .int .i64 0, .slice none 0 0, .int .i64 5, .int .i64 3, .int .i64 0, .slice none 0 0] #[.string ⟨#[97]⟩, .int .i64 1] 49 51
  rw [hw3] at kt kr
  have hT3 : TRowz w3 (some ⟨w2.heap.size, 0, none⟩) exT := trow_plain kt (fun t ht => by simp [exT] at ht; rcases ht with rfl | rfl <;> rfl)
  have hR3 : RRow w3 (some ⟨w2.heap.size + 1, 0, none⟩) exR := blk_grow rtc_len kr
  have hb13 := below_to hB2 hB3
  have HC2 : Hid (Calls Try.prog 11 #[.agg #[.slice x 2 p, .slice y 1 q], .agg #[.slice (some ⟨w2.heap.size, 0, none⟩) 2 2, .slice (some ⟨w2.heap.size + 1, 0, none⟩) 1 1]] w3 fun e w' => e = .returned (.bool true) ∧ Below w3.heap.size w3 w') := hide_ (same_yes x p y q (some ⟨w2.heap.size, 0, none⟩) 2 (some ⟨w2.heap.size + 1, 0, none⟩) 1 exT exR w3 (by decide) (by decide) (hide_ ⟨by decide, fun t ht => by simp [exT] at ht; rcases ht with rfl | rfl <;> decide⟩) (hide_ (hT1.later hb13)) (hide_ (hR1.later hb13)) (hide_ hT3) (hide_ hR3))
  have s0 := ks.cell 0; have s1 := ks.cell 1; have f0 := kf.cell 0; have f1 := kf.cell 1
  simp at s0 s1 f0 f1
  have HKs := hide_ ks
  have HT1 := hide_ hT1
  have HR1 := hide_ hR1
  have HB3 := hide_ hB3
  have HB13 := hide_ hb13
  clear hT3 hR3 kt kr hT1 hR1 hB3 hb13 ks kf hQT HRo
  go_upto_region 4 with (go_at_call 11; refine HC2.out.mono ?_; rintro e w4 ⟨rfl, hB4⟩; have HB4 := hide_ hB4; clear hB4)
  clear HC2 s0 s1 f0 f1 hw3
  have s0 := (HKs.out.later (below_to HB3.out HB4.out)).cell 0; have s1 := (HKs.out.later (below_to HB3.out HB4.out)).cell 1
  simp at s0 s1
  have HC3 : Hid (Calls Try.prog 7 #[.agg #[.slice x 2 p, .slice y 1 q], .string ⟨#[98]⟩] w4 fun e w' => e = .returned (.tuple #[.int .i64 0, .int .i64 93]) ∧ Below w4.heap.size w4 w') := hide_ (find_anyz (.slice x 2 p) y q exR ⟨#[98]⟩ w4 (by decide) (hide_ ((HR1.out.later HB13.out).later HB4.out)))
  go_upto_region 5 with (go_at_call 7; refine HC3.out.mono ?_; rintro e w5 ⟨rfl, hB5⟩; have HB5 := hide_ hB5; clear hB5)
  clear HC3 s0 s1
  obtain ⟨w6, hw6⟩ : ∃ wx, w5.alloc (.cells #[.int .i64 0, .int .i64 0, .int .i64 0, .slice none 0 0] 49) = wx := ⟨_, rfl⟩
  have hB6 : Below w5.heap.size w5 w6 := by rw [← hw6]; exact below1 _ _
  have kt : Blk w6 w5.heap.size 49 [.int .i64 0, .int .i64 0, .int .i64 0, .slice none 0 0] := by rw [← hw6]; exact Blk.newA w5 _ _
  have hT6 : TRowz w6 (some ⟨w5.heap.size, 0, none⟩) [⟨0, 0, 0, []⟩] := trow_plain kt (fun t ht => by simp at ht; subst ht; rfl)
  have HC4 : Hid (Calls Try.prog 6 #[.agg #[.slice (some ⟨w5.heap.size, 0, none⟩) 1 1, .slice none 0 0]] w6 fun e w' => e = .returned (.agg #[.int .i64 92, .int .i64 0]) ∧ Below w6.heap.size w6 w') := hide_ (check_anyz (some ⟨w5.heap.size, 0, none⟩) 1 [⟨0, 0, 0, []⟩] none 0 [] w6 (by decide) (by decide) (hide_ ⟨by decide, fun t ht => by simp at ht; subst ht; decide⟩) (hide_ hT6) (hide_ (.inl rfl)))
  have HB6 := hide_ hB6
  clear kt hT6 hB6
  go_wp2_with (go_at_call 6; refine HC4.out.mono ?_; rintro e w7 ⟨rfl, hB7⟩; have HB7 := hide_ hB7; clear hB7)
  go_ret
  exact ⟨rfl, below_to HBW.out (below_to HB1.out (below_to HB13.out (below_to HB4.out (below_to HB5.out (below_to HB6.out HB7.out)))))⟩
end Go.Proofs.Ytfgdkhmoikkgjaa

/- TypesChecks: its walk. -/
namespace Go.Proofs.Ytfgdkhmoikkgjaa
open Go.RowKit
set_option linter.unusedVariables false

set_option maxRecDepth 100000 in
set_option maxHeartbeats 8000000 in
theorem checks_any (aT : Option Addr) (cT : Nat) (T : List Ty) (aR : Option Addr) (cR : Nat) (R : List Rt) (nm : ByteArray) (w : World) (hTl : T.length ≤ 2932031007401) (hRl : R.length ≤ 5864062014634) (hno : aT = none → cT = 0) (hnR : aR = none → cR = 0) (hpl : Hid (∀ t ∈ T, t.ps.length ≤ 4398046510976)) (hT : Hid (TRowz w aT T)) (hR : Hid (RRow w aR R)) :
    Calls Try.prog 3 #[.agg #[.slice aT T.length cT, .slice aR R.length cR], .string nm] w fun e w' => e = .returned (.bool true) ∧ Below w.heap.size w w' := by
  have hL : Hid (LensT T) := hide_ ⟨by omega, fun t ht => by have := hpl.out t ht; omega⟩
  obtain ⟨w1, hw1⟩ : ∃ wx, wx = w.alloc (.cells #[.slice aT T.length cT, .slice aR R.length cR] 25) := ⟨_, rfl⟩
  have hB1 : Below w.heap.size w w1 := by rw [hw1]; exact below1 _ _
  have k1 : Blk w1 w.heap.size 25 [.slice aT T.length cT, .slice aR R.length cR] := by rw [hw1]; exact Blk.newA w _ _
  have HC1 := hide_ (awake_any w1)
  go_enter Try.func3, Try.ntmps3
  go_upto_region 1 with fail
  rw [← hw1]
  clear hw1
  go_upto_region 3 with (go_at_call 4; refine HC1.out.mono ?_; rintro e w2 ⟨rfl, hB2⟩)
  have HB2 := hide_ (below_to hB1 hB2)
  have K2 := hide_ (k1.later hB2)
  clear HC1 hB1 hB2 k1
  have s0 := K2.out.cell 0; have s1 := K2.out.cell 1
  simp at s0 s1
  have HC2 := hide_ (own_any aT cT T aR cR R w2 hTl hRl hno hnR hpl (hide_ (hT.out.later HB2.out)) (hide_ (hR.out.later HB2.out)))
  go_upto_region 4 with (go_at_call 5; refine HC2.out.mono ?_; rintro e w3 ⟨gT, c1, Q, gR, c2, rfl, HLt, HQ, HCc, HB3⟩)
  clear HC2 s0 s1
  obtain ⟨w4, hw4⟩ : ∃ wx, wx = w3.alloc (.cells #[.slice (some ⟨gT, 0, none⟩) T.length c1, .slice (some ⟨gR, 0, none⟩) R.length c2] 25) := ⟨_, rfl⟩
  have hB4 : Below w3.heap.size w3 w4 := by rw [hw4]; exact below1 _ _
  have k4 : Blk w4 w3.heap.size 25 [.slice (some ⟨gT, 0, none⟩) T.length c1, .slice (some ⟨gR, 0, none⟩) R.length c2] := by rw [hw4]; exact Blk.newA w3 _ _
  have HL4 := hide_ (HLt.out.later hB4)
  have K24 := hide_ (K2.out.later (below_to HB3.out hB4))
  have HB4 := hide_ (below_to HB2.out (below_to HB3.out hB4))
  have K4 := hide_ k4
  rw [← hw4]
  clear hw4 hB4 k4 HLt HB3 HB2 K2
  have hQl : Q.length = T.length := by have := congrArg List.length HQ.out; simpa using this
  obtain ⟨hr1, hr2⟩ := HL4.out.row
  rw [HQ.out] at hr1
  have hr3 : RRow w4 (some ⟨gR, 0, none⟩) R := by have := hr2.take R.length; simpa using this
  have HT4 := hide_ hr1
  have HR4 := hide_ hr3
  clear hr1 hr2 hr3 hQl
  have s0 := K4.out.cell 0; have s1 := K4.out.cell 1
  simp at s0 s1
  have HC3 := hide_ (check_anyz (some ⟨gT, 0, none⟩) c1 T (some ⟨gR, 0, none⟩) c2 R w4 (by omega) (by omega) hL HT4 HR4)
  obtain ⟨E, hE⟩ : ∃ E, chk T R = E := ⟨_, rfl⟩
  rw [hE] at HC3
  obtain ⟨E1, E2⟩ := E
  dsimp only at HC3
  go_upto_region 5 with (go_at_call 6; refine HC3.out.mono ?_; rintro e w5 ⟨rfl, hB5⟩; have HB5 := hide_ hB5; clear hB5)
  clear HC3 s0 s1
  obtain ⟨w6, hw6⟩ : ∃ wx, wx = w5.alloc (.cells #[.int .i64 E1, .int .i64 E2] 30) := ⟨_, rfl⟩
  have hB6 : Below w5.heap.size w5 w6 := by rw [hw6]; exact below1 _ _
  have k6 : Blk w6 w5.heap.size 30 [.int .i64 E1, .int .i64 E2] := by rw [hw6]; exact Blk.newA w5 _ _
  have hb46 := below_to HB5.out hB6
  have K46 := hide_ (K4.out.later hb46)
  have K26 := hide_ (K24.out.later hb46)
  have HB46 := hide_ hb46
  have K6 := hide_ k6
  rw [← hw6]
  clear hw6 hB6 k6 hb46 HB5
  have s0 := K46.out.cell 0; have s1 := K46.out.cell 1
  simp at s0 s1
  have HC4 := hide_ (find_anyz (.slice (some ⟨gT, 0, none⟩) T.length c1) (some ⟨gR, 0, none⟩) c2 R nm w6 (by omega) (hide_ (HR4.out.later HB46.out)))
  go_upto_region 6 with (go_at_call 7; refine HC4.out.mono ?_; rintro e w7 ⟨rfl, hB7⟩; have HB7 := hide_ hB7; clear hB7)
  clear HC4 s0 s1
  have HB47 := hide_ (below_to HB46.out HB7.out)
  have s0 := (K26.out.later HB7.out).cell 0; have s1 := (K26.out.later HB7.out).cell 1
  simp at s0 s1
  have HC5 := hide_ (checkR_any aT cT T aR cR R w7 (by omega) (by omega) hL (hide_ ((hT.out.later HB4.out).later HB47.out)) (hide_ ((hR.out.later HB4.out).later HB47.out)))
  rw [hE] at HC5
  dsimp only at HC5
  go_upto_region 7 with (go_at_call 8; refine HC5.out.mono ?_; rintro e w8 ⟨rfl, hB8⟩; have HB8 := hide_ hB8; clear hB8)
  clear HC5 s0 s1 hE
  obtain ⟨w9, hw9⟩ : ∃ wx, wx = w8.alloc (.cells #[.int .i64 E1, .int .i64 E2] 30) := ⟨_, rfl⟩
  have hB9 : Below w8.heap.size w8 w9 := by rw [hw9]; exact below1 _ _
  have k9 : Blk w9 w8.heap.size 30 [.int .i64 E1, .int .i64 E2] := by rw [hw9]; exact Blk.newA w8 _ _
  have hb69 := below_to HB7.out (below_to HB8.out hB9)
  have HB69 := hide_ hb69
  have K9 := hide_ k9
  have K69 := hide_ (K6.out.later hb69)
  have K49 := hide_ (K46.out.later hb69)
  have K29 := hide_ (K26.out.later hb69)
  have HB49 := hide_ (below_to HB46.out hb69)
  rw [← hw9]
  clear hw9 hB9 k9 hb69 HB7 HB8 HB47 K6 K46 K26
  have s0 := K29.out.cell 0; have s1 := K29.out.cell 1
  simp at s0 s1
  have HC6 := hide_ (findR_any (.slice aT T.length cT) aR cR R nm w9 (by omega) (hide_ ((hR.out.later HB4.out).later HB49.out)))
  go_upto_region 8 with (go_at_call 9; refine HC6.out.mono ?_; rintro e wa ⟨rfl, hBa⟩; have HBa := hide_ hBa; clear hBa)
  clear HC6 s0 s1
  have HB4a := hide_ (below_to HB49.out HBa.out)
  have HCm := hide_ (marked_any w2.heap.size gT c1 gR c2 Q T R wa hTl hRl hpl HQ HCc.out (hide_ (HL4.out.later HB4a.out)))
  have HCs : Hid (∀ wb, Below wa.heap.size wa wb → Calls Try.prog 11 #[.agg #[.slice (some ⟨gT, 0, none⟩) T.length c1, .slice (some ⟨gR, 0, none⟩) R.length c2], .agg #[.slice aT T.length cT, .slice aR R.length cR]] wb fun e w' => e = .returned (.bool true) ∧ Below wb.heap.size wb w') := hide_ (fun wb hb => same_yes (some ⟨gT, 0, none⟩) c1 (some ⟨gR, 0, none⟩) c2 aT cT aR cR T R wb (by omega) (by omega) hL (hide_ (HT4.out.later (below_to HB4a.out hb))) (hide_ (HR4.out.later (below_to HB4a.out hb))) (hide_ ((hT.out.later HB4.out).later (below_to HB4a.out hb))) (hide_ ((hR.out.later HB4.out).later (below_to HB4a.out hb))))
  have HST : Hid (∀ wb, Below wa.heap.size wa wb → Blk wb w3.heap.size 25 [.slice (some ⟨gT, 0, none⟩) T.length c1, .slice (some ⟨gR, 0, none⟩) R.length c2] ∧ Blk wb w.heap.size 25 [.slice aT T.length cT, .slice aR R.length cR]) := hide_ (fun wb hb => ⟨K49.out.later (below_to HBa.out hb), K29.out.later (below_to HBa.out hb)⟩)
  have f0 := (K69.out.later HBa.out).cell 0; have f1 := (K69.out.later HBa.out).cell 1
  have f2 := (K9.out.later HBa.out).cell 0; have f3 := (K9.out.later HBa.out).cell 1
  have s0 := (K49.out.later HBa.out).cell 0; have s1 := (K49.out.later HBa.out).cell 1
  simp at f0 f1 f2 f3 s0 s1
  go_wp2_with (first
    | (go_at_call 10; refine HCm.out.mono ?_; rintro e wb ⟨rfl, hBb⟩; have HBb := hide_ hBb; have t0 := (HST.out wb hBb).1.cell 0; have t1 := (HST.out wb hBb).1.cell 1; have t2 := (HST.out wb hBb).2.cell 0; have t3 := (HST.out wb hBb).2.cell 1; simp at t0 t1 t2 t3; clear hBb)
    | (go_at_call 11; refine (HCs.out _ HBb.out).mono ?_; rintro e wc ⟨rfl, hBc⟩; have HBc := hide_ hBc; clear hBc))
  go_ret
  exact ⟨rfl, below_to HB4.out (below_to HB4a.out (below_to HBb.out HBc.out))⟩
end Go.Proofs.Ytfgdkhmoikkgjaa
