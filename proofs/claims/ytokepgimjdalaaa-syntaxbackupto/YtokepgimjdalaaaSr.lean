/- first. -/
import Derived.Test.YtokepgimjdalaaaSq
namespace Go.Proofs.Ytokepgimjdalaaa
open Go.RowKit
set_option linter.unusedVariables false

/-- Parse's answer, by its parts. -/
theorem parse_is {s : ByteArray} {D : List Df} {E A : Nat} (h : prsT s = (D, E, A)) (w : World) : Calls Try.prog 10 #[.string s] w fun e w' => ∃ a cap vs, e = .returned (.tuple #[.agg #[.slice a D.length cap], .agg #[.int .i64 (E : Int), .int .i64 (A : Int)]]) ∧ D.length ≤ cap ∧ Hid (Src w' w.heap.size (.slice a D.length cap) D vs) ∧ Hid (DRow w' a D ∧ D.length ≤ 256) ∧ Hid (Below w.heap.size w w') := by
  refine (parse_any s w).mono ?_
  rintro e w' ⟨vd, vs, rfl, HS, HB⟩
  rw [h] at HS ⊢
  obtain ⟨a, cap, rfl, hc, hr⟩ := HS.out.1.row
  exact ⟨a, cap, vs, rfl, hc, HS.out.1, ⟨hr, HS.out.2⟩, HB⟩
set_option maxRecDepth 100000 in
set_option maxHeartbeats 8000000 in
theorem first_any (w : World) : Calls Try.prog 9 #[] w fun e w' => e = .returned (.bool true) ∧ Below w.heap.size w w' := by
  have H1 := hide_ ex1
  have H2 := hide_ ex2
  go_enter Try.func9, Try.ntmps9
  go_wp2_with fail
  refine (parse_is H1.out w).mono ?_; rintro e w1 ⟨a1, c1, vs1, rfl, hc1, -, HD1, HB1⟩
  obtain ⟨b, off, rfl, hb, hd⟩ := HD1.out.1.open (by decide)
  obtain ⟨va, vc, hcs, hvc, -, hN⟩ := hd 0 _ rfl
  obtain ⟨bn, on, rfl, hbn, hn⟩ := hN.open (by decide)
  have HX : Hid ((∀ j, j < 3 → w1.cell? ⟨b, off + 0 * 3 + j, none⟩ = (dfc ⟨⟨#[111]⟩, 5, [⟨7, 0, ⟨#[]⟩, ⟨#[]⟩, 0, 2, 7⟩, ⟨2, 0, ⟨#[]⟩, ⟨#[]⟩, 3, 0, 13⟩, ⟨6, 0, ⟨#[]⟩, ⟨#[]⟩, 0, 1, 20⟩, ⟨3, 0, ⟨#[]⟩, ⟨#[]⟩, 0, 0, 29⟩]⟩ (.slice (some ⟨bn, on, none⟩) 4 vc))[j]?) ∧ (∀ (i : Nat) (x : Nd), [(⟨7, 0, ⟨#[]⟩, ⟨#[]⟩, 0, 2, 7⟩ : Nd), ⟨2, 0, ⟨#[]⟩, ⟨#[]⟩, 3, 0, 13⟩, ⟨6, 0, ⟨#[]⟩, ⟨#[]⟩, 0, 1, 20⟩, ⟨3, 0, ⟨#[]⟩, ⟨#[]⟩, 0, 0, 29⟩][i]? = some x → ∀ j, j < 7 → w1.cell? ⟨bn, on + i * 7 + j, none⟩ = (ndc x)[j]?)) := ⟨hcs, hn⟩
  clear HD1 hd hcs hN hn
  simp only [List.length_cons, List.length_nil, Nat.reduceAdd] at hc1 hvc ⊢
  have hb1 : Blk (w1.alloc (.cells #[.slice (some ⟨b, off, none⟩) 1 c1] 25)) w1.heap.size 25 [.slice (some ⟨b, off, none⟩) 1 c1] := Blk.newA w1 #[.slice (some ⟨b, off, none⟩) 1 c1] 25
  obtain ⟨q1, q2⟩ : Blk ((w1.alloc (.cells #[.slice (some ⟨b, off, none⟩) 1 c1] 25)).alloc (.cells #[.int .i64 0, .int .i64 0] 28)) w1.heap.size 25 [.slice (some ⟨b, off, none⟩) 1 c1] ∧ Blk ((w1.alloc (.cells #[.slice (some ⟨b, off, none⟩) 1 c1] 25)).alloc (.cells #[.int .i64 0, .int .i64 0] 28)) (w1.heap.size + 1) 28 [.int .i64 0, .int .i64 0] := ⟨hb1.alloc _, by have h := Blk.newA (w1.alloc (.cells #[.slice (some ⟨b, off, none⟩) 1 c1] 25)) #[.int .i64 0, .int .i64 0] 28; simpa using h⟩
  have Q1 := hide_ q1
  have Q2 := hide_ q2
  have HBa := hide_ (below2 w1 (.cells #[.slice (some ⟨b, off, none⟩) 1 c1] 25) (.cells #[.int .i64 0, .int .i64 0] 28))
  clear hb1 q1 q2
  simp only [Int.natCast_zero]
  go_wp2_with fail
  refine (parse_is H2.out _).mono ?_; rintro e w2 ⟨a2, c2, vs2, rfl, hc2, -, HD2, HB2⟩
  have P1 := hide_ (Q1.out.later HB2.out)
  have P2 := hide_ (Q2.out.later HB2.out)
  have HBb := hide_ (HBa.out.trans (HB2.out.mono HBa.out.size))
  clear HD2 Q1 Q2 HBa HB2 vs1 vs2
  simp only [List.length_nil]
  obtain ⟨w3, hw3⟩ : ∃ w3, w3 = (w2.alloc (.cells #[.slice a2 0 c2] 25)).alloc (.cells #[.int .i64 60, .int .i64 17] 28) := ⟨_, rfl⟩
  have k4 : Blk w3 (w2.heap.size + 1) 28 [.int .i64 60, .int .i64 17] := by rw [hw3]; have h := Blk.newA (w2.alloc (.cells #[.slice a2 0 c2] 25)) #[.int .i64 60, .int .i64 17] 28; simpa using h
  have hB23 : Below w2.heap.size w2 w3 := by rw [hw3]; exact below2 w2 _ _
  have HB13 := hide_ (HBb.out.trans (hB23.mono HBb.out.size))
  have k1 := P1.out.later hB23
  have k2 := P2.out.later hB23
  clear P1 P2 HBb hB23
  have s0 := k1.cell 0
  have f0 := k2.cell 0; have f1 := k2.cell 1
  have g0 := k4.cell 0; have g1 := k4.cell 1
  have d0 := (HB13.out.cell (p := ⟨b, off + 0 * 3 + 0, none⟩) hb).trans (HX.out.1 0 (by decide))
  have d1 := (HB13.out.cell (p := ⟨b, off + 0 * 3 + 1, none⟩) hb).trans (HX.out.1 1 (by decide))
  have d2 := (HB13.out.cell (p := ⟨b, off + 0 * 3 + 2, none⟩) hb).trans (HX.out.1 2 (by decide))
  have n00 := (HB13.out.cell (p := ⟨bn, on + 0 * 7 + 0, none⟩) hbn).trans (HX.out.2 0 _ rfl 0 (by decide))
  have n01 := (HB13.out.cell (p := ⟨bn, on + 0 * 7 + 1, none⟩) hbn).trans (HX.out.2 0 _ rfl 1 (by decide))
  have n02 := (HB13.out.cell (p := ⟨bn, on + 0 * 7 + 2, none⟩) hbn).trans (HX.out.2 0 _ rfl 2 (by decide))
  have n03 := (HB13.out.cell (p := ⟨bn, on + 0 * 7 + 3, none⟩) hbn).trans (HX.out.2 0 _ rfl 3 (by decide))
  have n04 := (HB13.out.cell (p := ⟨bn, on + 0 * 7 + 4, none⟩) hbn).trans (HX.out.2 0 _ rfl 4 (by decide))
  have n05 := (HB13.out.cell (p := ⟨bn, on + 0 * 7 + 5, none⟩) hbn).trans (HX.out.2 0 _ rfl 5 (by decide))
  have n06 := (HB13.out.cell (p := ⟨bn, on + 0 * 7 + 6, none⟩) hbn).trans (HX.out.2 0 _ rfl 6 (by decide))
  have n10 := (HB13.out.cell (p := ⟨bn, on + 1 * 7 + 0, none⟩) hbn).trans (HX.out.2 1 _ rfl 0 (by decide))
  have n11 := (HB13.out.cell (p := ⟨bn, on + 1 * 7 + 1, none⟩) hbn).trans (HX.out.2 1 _ rfl 1 (by decide))
  have n12 := (HB13.out.cell (p := ⟨bn, on + 1 * 7 + 2, none⟩) hbn).trans (HX.out.2 1 _ rfl 2 (by decide))
  have n13 := (HB13.out.cell (p := ⟨bn, on + 1 * 7 + 3, none⟩) hbn).trans (HX.out.2 1 _ rfl 3 (by decide))
  have n14 := (HB13.out.cell (p := ⟨bn, on + 1 * 7 + 4, none⟩) hbn).trans (HX.out.2 1 _ rfl 4 (by decide))
  have n15 := (HB13.out.cell (p := ⟨bn, on + 1 * 7 + 5, none⟩) hbn).trans (HX.out.2 1 _ rfl 5 (by decide))
  have n16 := (HB13.out.cell (p := ⟨bn, on + 1 * 7 + 6, none⟩) hbn).trans (HX.out.2 1 _ rfl 6 (by decide))
  have n20 := (HB13.out.cell (p := ⟨bn, on + 2 * 7 + 0, none⟩) hbn).trans (HX.out.2 2 _ rfl 0 (by decide))
  have n21 := (HB13.out.cell (p := ⟨bn, on + 2 * 7 + 1, none⟩) hbn).trans (HX.out.2 2 _ rfl 1 (by decide))
  have n22 := (HB13.out.cell (p := ⟨bn, on + 2 * 7 + 2, none⟩) hbn).trans (HX.out.2 2 _ rfl 2 (by decide))
  have n23 := (HB13.out.cell (p := ⟨bn, on + 2 * 7 + 3, none⟩) hbn).trans (HX.out.2 2 _ rfl 3 (by decide))
  have n24 := (HB13.out.cell (p := ⟨bn, on + 2 * 7 + 4, none⟩) hbn).trans (HX.out.2 2 _ rfl 4 (by decide))
  have n25 := (HB13.out.cell (p := ⟨bn, on + 2 * 7 + 5, none⟩) hbn).trans (HX.out.2 2 _ rfl 5 (by decide))
  have n26 := (HB13.out.cell (p := ⟨bn, on + 2 * 7 + 6, none⟩) hbn).trans (HX.out.2 2 _ rfl 6 (by decide))
  have n30 := (HB13.out.cell (p := ⟨bn, on + 3 * 7 + 0, none⟩) hbn).trans (HX.out.2 3 _ rfl 0 (by decide))
  have n31 := (HB13.out.cell (p := ⟨bn, on + 3 * 7 + 1, none⟩) hbn).trans (HX.out.2 3 _ rfl 1 (by decide))
  have n32 := (HB13.out.cell (p := ⟨bn, on + 3 * 7 + 2, none⟩) hbn).trans (HX.out.2 3 _ rfl 2 (by decide))
  have n33 := (HB13.out.cell (p := ⟨bn, on + 3 * 7 + 3, none⟩) hbn).trans (HX.out.2 3 _ rfl 3 (by decide))
  have n34 := (HB13.out.cell (p := ⟨bn, on + 3 * 7 + 4, none⟩) hbn).trans (HX.out.2 3 _ rfl 4 (by decide))
  have n35 := (HB13.out.cell (p := ⟨bn, on + 3 * 7 + 5, none⟩) hbn).trans (HX.out.2 3 _ rfl 5 (by decide))
  have n36 := (HB13.out.cell (p := ⟨bn, on + 3 * 7 + 6, none⟩) hbn).trans (HX.out.2 3 _ rfl 6 (by decide))
  simp [dfc, ndc] at s0 f0 f1 g0 g1 d0 d1 d2 n00 n01 n02 n03 n04 n05 n06 n10 n11 n12 n13 n14 n15 n16 n20 n21 n22 n23 n24 n25 n26 n30 n31 n32 n33 n34 n35 n36
  have HBw := hide_ (HB1.out.trans (HB13.out.mono HB1.out.size))
  clear HX HB13 k1 k2 k4 HB1 H1 H2
  go_upto_region 3 with fail
  rw [← hw3]
  clear hw3
  have kz := Blk.newA (w3.alloc (.cells #[.int .i64 2, .int .i64 0, .string ⟨#[]⟩, .string ⟨#[]⟩, .int .i64 0, .int .i64 0, .int .i64 0] 40)) #[.string ⟨#[117, 56]⟩, .int .i64 0, .slice (some ⟨w3.heap.size, 0, none⟩) 1 1] 38
  simp at kz
  have HKz := hide_ kz
  have HBz := hide_ (HBw.out.trans ((below2 w3 (.cells #[.int .i64 2, .int .i64 0, .string ⟨#[]⟩, .string ⟨#[]⟩, .int .i64 0, .int .i64 0, .int .i64 0] 40) (.cells #[.string ⟨#[117, 56]⟩, .int .i64 0, .slice (some ⟨w3.heap.size, 0, none⟩) 1 1] 38)).mono HBw.out.size))
  clear kz
  go_wp2_with fail
  refine (check_u8 _ _ _ HKz ⟨_, _, _, rfl⟩).mono ?_; rintro e w4 ⟨rfl, hB4⟩
  go_wp2
  go_ret
  exact ⟨rfl, HBz.out.trans (hB4.mono HBz.out.size)⟩
end Go.Proofs.Ytokepgimjdalaaa
