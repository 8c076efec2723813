/- The law's awake. -/
import Derived.Test.YtnpkpmbpapekbaaEg
import Derived.Test.YtnpkpmbpapekbaaEc
namespace Go.Proofs.Ytnpkpmbpapekbaa
open Go.RowKit
set_option linter.unusedVariables false

def awT : List Ty := [⟨3, 0, 0, []⟩, ⟨4, 3, 0, []⟩]
theorem aw_chk : chk awT [] = (0, 0) := by kernel_rfl
theorem aw_lay : awT.map (layP (extL awT)) = [⟨0, []⟩, ⟨12, [⟨0, true, 4⟩]⟩] := by kernel_rfl
theorem aw_off : offA 9 [3, 0, 2] = ([9, 12, 12], 0) := by kernel_rfl
theorem aw_len : lenA 9 [9, 12, 12] 14 = ([3, 0, 2], 0, 0) := by kernel_rfl
def awTc : List Value := [.int .i64 3, .int .i64 0, .int .i64 0, .slice none 0 0, .int .i64 4, .int .i64 3, .int .i64 0, .slice none 0 0]
theorem aw_row {w : World} {b : Nat} (hK : Blk w b 46 awTc) : TRow w (some ⟨b, 0, none⟩) awT := by
  refine .inr ⟨b, 0, rfl, hK.lt, fun i t ht => ?_⟩
  have key : ∀ (m : Nat) (u : Ty) (v : Value), (∀ j, j < 4 → awTc[m * 4 + j]? = (tyc u v)[j]?) → ∀ j, j < 4 → w.cell? ⟨b, 0 + m * 4 + j, none⟩ = (tyc u v)[j]? := fun m u v h j hj => by
    rw [hK.cell, Nat.zero_add]
    exact h j hj
  have nn : ∀ (m : Nat) (u : Ty), u.ps = [] → (∀ j, j < 4 → awTc[m * 4 + j]? = (tyc u (.slice none 0 0))[j]?) → ∃ va vc, (∀ j, j < 4 → w.cell? ⟨b, 0 + m * 4 + j, none⟩ = (tyc u (.slice va u.ps.length vc))[j]?) ∧ u.ps.length ≤ vc ∧ (va = none → vc = 0) ∧ PRow w va u.ps := fun m u hu h => by
    refine ⟨none, 0, ?_, by rw [hu]; exact Nat.le_refl _, fun _ => rfl, .inl hu⟩
    rw [hu]
    exact key m u _ h
  match i, ht with
  | 0, ht => injection ht with ht; subst ht; exact nn 0 _ rfl (fun j hj => match j, hj with | 0, _ => rfl | 1, _ => rfl | 2, _ => rfl | 3, _ => rfl)
  | 1, ht => injection ht with ht; subst ht; exact nn 1 _ rfl (fun j hj => match j, hj with | 0, _ => rfl | 1, _ => rfl | 2, _ => rfl | 3, _ => rfl)
  | n + 2, ht => cases ht
theorem aw_lens : LensT awT := ⟨by decide, fun t ht => by
  simp only [awT, List.mem_cons, List.not_mem_nil, or_false] at ht
  rcases ht with rfl | rfl <;> simp⟩
theorem len2P {α : Type} {P : List α} (h : P.length = 2) : ∃ p r, P = [p, r] := by
  match P, h with
  | [p, r], _ => exact ⟨p, r, rfl⟩
theorem same3 (a b : Option Addr) (c d : Nat) (l : List Int) (hl : l.length = 3) (w : World) (h1 : Hid (Row .i64 w a l)) (h2 : Hid (Row .i64 w b l)) :
    Calls Try.prog 10 #[.slice a 3 c, .slice b 3 d] w fun e w' => e = .returned (.bool true) ∧ Below w.heap.size w w' := by
  have h := same_any a b c d l l w (by omega) (by omega) h1 h2
  rw [hl, decide_eq_true rfl] at h
  exact h
set_option maxRecDepth 100000 in
set_option maxHeartbeats 8000000 in
theorem awake_any (w : World) : Calls Try.prog 7 #[] w fun e w' => e = .returned (.bool true) ∧ Below w.heap.size w w' := by
  obtain ⟨w1, hw1⟩ : ∃ w1, w1 = w.alloc (.cells #[.int .i64 3, .int .i64 0, .int .i64 2] 3) := ⟨_, rfl⟩
  have hB1 : Below w.heap.size w w1 := by rw [hw1]; exact below1 _ _
  have k1 : Blk w1 w.heap.size 3 (cellsL .i64 [3, 0, 2]) := by rw [hw1]; exact Blk.newA w _ _
  have HB1 := hide_ hB1
  have HOf : Hid (Calls Try.prog 8 #[.int .i64 9, .slice (some ⟨w.heap.size, 0, none⟩) 3 3] w1 fun e w' => ∃ a c, e = .returned (.tuple #[.slice a 3 c, .int .i64 0]) ∧ Hid (Row .i64 w' a [9, 12, 12]) ∧ Hid (Below w1.heap.size w1 w')) := hide_ (by
    refine (offsets_any 9 (some ⟨w.heap.size, 0, none⟩) 3 [3, 0, 2] w1 (by decide) (hide_ k1.row)).mono ?_
    rintro e w' ⟨v, rfl, HO⟩
    rw [aw_off] at HO ⊢
    obtain ⟨a, c, rfl, hr, -⟩ := HO.out.1.row
    exact ⟨a, c, rfl, hide_ hr, hide_ HO.out.2⟩)
  clear k1 hB1
  go_enter Try.func7, Try.ntmps7
  go_upto_region 1 with fail
  go_wp2_with fail
  rw [← hw1]
  clear hw1
  refine HOf.out.mono ?_
  rintro e w2 ⟨ao, co, rfl, HR2, HB2⟩
  obtain ⟨w3, hw3⟩ : ∃ w3, w3 = w2.alloc (.cells #[.int .i64 9, .int .i64 12, .int .i64 12] 3) := ⟨_, rfl⟩
  have hB3 : Below w2.heap.size w2 w3 := by rw [hw3]; exact below1 _ _
  have k3 : Blk w3 w2.heap.size 3 (cellsL .i64 [9, 12, 12]) := by rw [hw3]; exact Blk.newA w2 _ _
  have HB3 := hide_ (below_to HB1.out (below_to HB2.out hB3))
  have HSa := hide_ (same3 ao (some ⟨w2.heap.size, 0, none⟩) co 3 [9, 12, 12] rfl w3 (hide_ (HR2.out.later hB3)) (hide_ k3.row))
  clear hB3 k3 HOf HB1 HB2 HR2
  go_wp2_with fail
  rw [← hw3]
  clear hw3
  refine HSa.out.mono ?_
  rintro e w4 ⟨rfl, hB4⟩
  have HB4 := hide_ (below_to HB3.out hB4)
  obtain ⟨w5, hw5⟩ : ∃ w5, w5 = w4.alloc (.cells #[.int .i64 9, .int .i64 12, .int .i64 12] 3) := ⟨_, rfl⟩
  have hB5 : Below w4.heap.size w4 w5 := by rw [hw5]; exact below1 _ _
  have k5 : Blk w5 w4.heap.size 3 (cellsL .i64 [9, 12, 12]) := by rw [hw5]; exact Blk.newA w4 _ _
  have HB5 := hide_ (below_to HB4.out hB5)
  have HLe : Hid (Calls Try.prog 9 #[.int .i64 9, .slice (some ⟨w4.heap.size, 0, none⟩) 3 3, .int .i64 14] w5 fun e w' => ∃ a c, e = .returned (.tuple #[.slice a 3 c, .int .i64 0, .int .i64 0]) ∧ Hid (Row .i64 w' a [3, 0, 2]) ∧ Hid (Below w5.heap.size w5 w')) := hide_ (by
    refine (lengths_any 9 14 (some ⟨w4.heap.size, 0, none⟩) 3 [9, 12, 12] w5 (by decide) (by decide) (hide_ k5.row)).mono ?_
    rintro e w' ⟨v, rfl, HO⟩
    rw [aw_len] at HO ⊢
    obtain ⟨a, c, rfl, hr, -⟩ := HO.out.1.row
    exact ⟨a, c, rfl, hide_ hr, hide_ HO.out.2⟩)
  clear hB5 k5 hB4 HSa
  go_wp2_with fail
  rw [← hw5]
  clear hw5
  refine HLe.out.mono ?_
  rintro e w6 ⟨al, cl, rfl, HR6, HB6⟩
  have HB6w := hide_ (below_to HB5.out HB6.out)
  obtain ⟨w7, hw7⟩ : ∃ w7, w7 = w6.alloc (.cells awTc.toArray 46) := ⟨_, rfl⟩
  have hB7 : Below w6.heap.size w6 w7 := by rw [hw7]; exact below1 _ _
  have k7 : Blk w7 w6.heap.size 46 awTc := by rw [hw7]; exact Blk.new w6 _ _
  simp only [awTc] at hw7
  have HB7 := hide_ (below_to HB6w.out hB7)
  have HLo : Hid (Calls Try.prog 12 #[.agg #[.slice (some ⟨w6.heap.size, 0, none⟩) 2 2, .slice none 0 0]] w7 fun e w' => ∃ g c, e = .returned (.tuple #[.slice (some ⟨g, 0, none⟩) 2 c, .int .i64 0]) ∧ w'.cell? ⟨g, 2, none⟩ = some (.int .i64 12) ∧ Hid (Below w7.heap.size w7 w')) := hide_ (by
    refine (lof_any (some ⟨w6.heap.size, 0, none⟩) 2 awT none 0 [] w7 (by decide) (by decide) (hide_ aw_lens) (hide_ (aw_row k7)) (hide_ (.inl rfl))).mono ?_
    rintro e w' (⟨hne, -, -⟩ | ⟨-, v, P, rfl, hP, hO, hB⟩)
    · rw [aw_chk] at hne; exact absurd rfl hne
    · rw [aw_lay] at hP
      have hl2 : P.length = 2 := by have := congrArg List.length hP; simpa using this
      obtain ⟨p, r, rfl⟩ := len2P hl2
      simp at hP
      obtain ⟨h1, h2⟩ := hP
      obtain ⟨a, c, rfl, -, hg⟩ := hO.slice
      obtain ⟨b, off, rfl, -, hc⟩ := hg.open (by simp)
      obtain ⟨g, cap, ys, e2, -, -, -, -, -, -⟩ := ownS_blk hO.row (by simp)
      injection e2 with e2 _ _
      injection e2 with e2
      injection e2 with e3 e4 _
      subst e3 e4
      have := hc 1 r rfl 0 (by decide)
      simp [lyc, h2] at this
      exact ⟨b, c, rfl, this, hide_ hB⟩)
  have HR7 := hide_ (HR6.out.later hB7)
  clear hB7 k7 HLe HB6w HB6 HB5 HB4 HB3 HR6
  go_wp2_with fail
  rw [← hw7]
  clear hw7
  refine HLo.out.mono ?_
  rintro e w8 ⟨g, c8, rfl, h12, HB8⟩
  obtain ⟨w9, hw9⟩ : ∃ w9, w9 = w8.alloc (.cells #[.int .i64 3, .int .i64 0, .int .i64 2] 3) := ⟨_, rfl⟩
  have hB9 : Below w8.heap.size w8 w9 := by rw [hw9]; exact below1 _ _
  have k9 : Blk w9 w8.heap.size 3 (cellsL .i64 [3, 0, 2]) := by rw [hw9]; exact Blk.newA w8 _ _
  have HB9 := hide_ (below_to HB7.out (below_to HB8.out hB9))
  have HSa := hide_ (same3 al (some ⟨w8.heap.size, 0, none⟩) cl 3 [3, 0, 2] rfl w9 (hide_ (HR7.out.later (below_to HB8.out hB9))) (hide_ k9.row))
  have h129 : w9.cell? ⟨g, 2, none⟩ = some (.int .i64 12) := (hB9.cell (World.block_lt_of_cell? w8 _ h12)).trans h12
  clear hB9 k9 HLo HR7 h12
  go_wp2_with fail
  rw [← hw9]
  clear hw9
  refine HSa.out.mono ?_
  rintro e w10 ⟨rfl, hB10⟩
  have h1210 : w10.cell? ⟨g, 2, none⟩ = some (.int .i64 12) := (hB10.cell (World.block_lt_of_cell? w9 _ h129)).trans h129
  have HBf := hide_ (below_to HB9.out hB10)
  clear hB10 h129 HSa HB9
  go_wp2
  go_ret
  exact ⟨rfl, HBf.out⟩
end Go.Proofs.Ytnpkpmbpapekbaa
