/- Three texts of the document's examples; first. -/
import Derived.Test.YtoodafhljgdghaaK
import Derived.Test.YtoodafhljgdghaaL
namespace Go.Proofs.Ytoodafhljgdghaa
open Go.RowKit
set_option linter.unusedVariables false

theorem ex1 : cutT ⟨#[48, 60, 97, 49, 95, 98, 32, 35, 32, 97, 110, 121]⟩ = ([⟨2, ⟨#[]⟩, 0, 0, 1⟩, ⟨3, ⟨#[60]⟩, 0, 1, 2⟩, ⟨1, ⟨#[97, 49, 95, 98]⟩, 0, 2, 6⟩], 0, 0) := by rfl
theorem ex2 : cutT ⟨#[97, 49, 95, 98, 60, 48, 48, 55]⟩ = ([], 51, 5) := by rfl
theorem ex3 : (cutT ⟨#[116, 121, 112, 101, 32, 97, 32, 61, 32, 117, 56, 59]⟩).2 = (0, 0) ∧ (cutT ⟨#[116, 121, 112, 101, 32, 97, 32, 61, 32, 117, 56, 59]⟩).1.length = 5 := by exact ⟨rfl, rfl⟩
theorem wd1 : isWord ⟨#[108, 105, 115, 116]⟩ = true := by decide
theorem wd2 : isWord ⟨#[108, 105, 115, 116, 115]⟩ = false := by decide
theorem nm1 : isName ⟨#[108, 105, 115, 116, 115]⟩ = true := by decide
theorem nm2 : isName ⟨#[108, 105, 115, 116]⟩ = false := by decide
set_option maxRecDepth 100000 in
set_option maxHeartbeats 8000000 in
theorem first_any (w : World) : Calls Try.prog 9 #[] w fun e w' => e = .returned (.bool true) ∧ Below w.heap.size w w' := by
  have w1' := wd1; have w2' := wd2; have n1' := nm1; have n2' := nm2
  go_enter Try.func9, Try.ntmps9
  go_wp2_with fail
  refine (cut_any _ _).mono ?_; rintro e w1 ⟨v1, rfl, HV1, HB1⟩
  rw [ex1] at HV1 ⊢
  have HF1 := (Blk.newA w1 #[.int .i64 0, .int .i64 0] 26)
  obtain ⟨g, cap, ys, rfl, hb, hn, hm, hl, ht, hK⟩ := ownS_blk HV1.out (by decide)
  have HBa : Below w.heap.size w (w1.alloc (.cells #[.int .i64 0, .int .i64 0] 26)) := HB1.out.alloc HB1.out.size _
  have hKa := hK.alloc (.cells #[.int .i64 0, .int .i64 0] 26)
  have HH : Hid (Blk (w1.alloc (.cells #[.int .i64 0, .int .i64 0] 26)) g 34 ys ∧ Blk (w1.alloc (.cells #[.int .i64 0, .int .i64 0] 26)) w1.heap.size 26 [.int .i64 0, .int .i64 0] ∧ Below w.heap.size w (w1.alloc (.cells #[.int .i64 0, .int .i64 0] 26))) := ⟨hKa, HF1, HBa⟩
  have HT := hide_ ht
  clear HF1 HBa hKa hK HV1 HB1 ht hl hn hm hb
  go_wp2_with fail
  refine (cut_any _ _).mono ?_; rintro e w2 ⟨v2, rfl, HV2, HB2⟩
  rw [ex2] at HV2 ⊢
  clear HV2
  obtain ⟨k1, k2, k3⟩ := HH.out
  have k1 := (k1.later HB2.out).alloc (.cells #[.int .i64 51, .int .i64 5] 26)
  have k2 := (k2.later HB2.out).alloc (.cells #[.int .i64 51, .int .i64 5] 26)
  have k3 := k3.trans (HB2.out.mono k3.size)
  have HB := hide_ (k3.alloc k3.size (.cells #[.int .i64 51, .int .i64 5] 26))
  have hat : ∀ j, j < 15 → ys[j]? = [.int .i64 2, .string ⟨#[]⟩, .int .i64 0, .int .i64 0, .int .i64 1, .int .i64 3, .string ⟨#[60]⟩, .int .i64 0, .int .i64 1, .int .i64 2, .int .i64 1, .string ⟨#[97, 49, 95, 98]⟩, .int .i64 0, .int .i64 2, .int .i64 6][j]? := fun j hj => by
    have := congrArg (fun l => l[j]?) HT.out
    rw [List.getElem?_take, if_pos (by simp; omega)] at this
    rw [this]; rfl
  have c0 := (k1.cell 0).trans (hat 0 (by decide))
  have c1 := (k1.cell 1).trans (hat 1 (by decide))
  have c2 := (k1.cell 2).trans (hat 2 (by decide))
  have c3 := (k1.cell 3).trans (hat 3 (by decide))
  have c4 := (k1.cell 4).trans (hat 4 (by decide))
  have c5 := (k1.cell 5).trans (hat 5 (by decide))
  have c6 := (k1.cell 6).trans (hat 6 (by decide))
  have c7 := (k1.cell 7).trans (hat 7 (by decide))
  have c8 := (k1.cell 8).trans (hat 8 (by decide))
  have c9 := (k1.cell 9).trans (hat 9 (by decide))
  have c10 := (k1.cell 10).trans (hat 10 (by decide))
  have c11 := (k1.cell 11).trans (hat 11 (by decide))
  have c12 := (k1.cell 12).trans (hat 12 (by decide))
  have c13 := (k1.cell 13).trans (hat 13 (by decide))
  have c14 := (k1.cell 14).trans (hat 14 (by decide))
  have e0 := k2.cell 0; have e1 := k2.cell 1
  simp at e0 e1 c0 c1 c2 c3 c4 c5 c6 c7 c8 c9 c10 c11 c12 c13 c14
  clear HH HT hat k1 k2 k3 HB2
  go_wp2_with (first | (go_at_call 15; refine (word_any _ _).mono ?_; rintro e w' ⟨rfl, rfl⟩) | (go_at_call 17; refine (name_any _ _).mono ?_; rintro e w' ⟨rfl, rfl⟩))
  go_ret
  exact ⟨by first | rfl | simp, HB.out⟩
end Go.Proofs.Ytoodafhljgdghaa
