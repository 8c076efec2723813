import Derived.Test.YtnmffeeieclmfaaPart27
import Derived.Laws.OwnMore
import Derived.ArgAppend

/- sound's laws: ints, the first calls, made. -/
namespace Go.Proofs.Ytnmffeeieclmfaa
open Go.RowKit
set_option linter.unusedVariables false
set_option linter.unusedSimpArgs false

set_option maxRecDepth 100000 in
set_option maxHeartbeats 4000000 in
theorem ints_any (a1 a2 : Option Addr) (c1 c2 : Nat) (l1 l2 : List Int) (w : World) (h1 : l1.length ≤ 9223372036854775807) (h2 : l2.length ≤ 9223372036854775807) (r1 : Hid (Row .i64 w a1 l1)) (r2 : Hid (Row .i64 w a2 l2)) :
    Calls Try.prog 11 #[.slice a1 l1.length c1, .slice a2 l2.length c2] w fun e w' => e = .returned (.bool (decide (l1 = l2))) ∧ Below w.heap.size w w' := by
  obtain ⟨R, hR⟩ : ∃ R, decide (l1 = l2) = R := ⟨_, rfl⟩
  rw [hR]
  have HR := hide_ hR
  clear hR
  by_cases hl : l1.length = l2.length
  · have hl' : ((l1.length : Int) != (l2.length : Int)) = false := by simp; omega
    have HL := hide_ hl
    go_enter Try.func11, Try.ntmps11
    go_wp2_with fail
    go_loopw [5] (fun x5 wr => ∃ i : Nat, i ≤ l1.length ∧ x5 = .int .i64 (i : Int) ∧ Hid (l1.take i = l2.take i) ∧ Hid (Below w.heap.size w wr)) (fun x5 _ => l1.length - (intOf x5).toNat)
    case atStart => exact ⟨0, Nat.zero_le _, rfl, hide_ rfl, hide_ (Below.refl _ _)⟩
    case round =>
      obtain ⟨i, hi, rfl, HT, HB⟩ := hrel
      generalize wr = wq at *
      by_cases hlt : i < l1.length
      · have hlt' : (i : Int) < l1.length := by omega
        have hlt2 : i < l2.length := by have := HL.out; omega
        have hlt2' : (i : Int) < l2.length := by omega
        obtain ⟨b1, o1, rfl, hb1, hc1⟩ := (r1.out.later HB.out).open (by omega)
        obtain ⟨b2, o2, rfl, hb2, hc2⟩ := (r2.out.later HB.out).open (by omega)
        have d1 := hc1 i hlt
        have d2 := hc2 i hlt2
        have e1 : l1.getD i 0 = l1[i]'hlt := by simp [List.getD, hlt]
        have e2 : l2.getD i 0 = l2[i]'hlt2 := by simp [List.getD, hlt2]
        have ht1 : l1.take (i + 1) = l1.take i ++ [l1[i]'hlt] := List.take_succ_eq_append_getElem hlt
        have ht2 : l2.take (i + 1) = l2.take i ++ [l2[i]'hlt2] := List.take_succ_eq_append_getElem hlt2
        rw [← e1] at ht1
        rw [← e2] at ht2
        generalize l1.getD i 0 = x at *
        generalize l2.getD i 0 = y at *
        have HT1 := hide_ ht1
        have HT2 := hide_ ht2
        clear hc1 hc2 ht1 ht2 e1 e2 hl
        have hdr : Hid (Below w.heap.size w wq.drew) := hide_ HB.out.drew
        by_cases he : x = y
        · have he' : (x != y) = false := by simp [he]
          have HT3 : Hid (l1.take (i + 1) = l2.take (i + 1)) := hide_ (by rw [HT1.out, HT2.out, HT.out, he])
          clear he
          go_wp2_with fail
          go_region
          go_wp2_with fail
          go_roundw
          case rel => exact ⟨i + 1, by omega, by go_num, HT3, hdr⟩
          case measure => simp [intOf]; omega
        · have he' : (x != y) = true := by simpa using he
          have HV : Hid (R = false) := hide_ (by
            rw [← HR.out]
            refine decide_eq_false fun e => he ?_
            have h1 := HT1.out
            rw [e, HT2.out, ← e, HT.out] at h1
            simpa using h1.symm)
          clear he
          go_wp2_with fail
          go_region
          go_wp2
          go_ret
          exact ⟨by rw [HV.out]; rfl, hdr.out⟩
      · obtain rfl : i = l1.length := by omega
        have HV : Hid (R = true) := hide_ (by
          rw [← HR.out]
          have h := HT.out
          rw [List.take_length, HL.out, List.take_length] at h
          exact decide_eq_true h)
        clear hl
        go_wp2
        go_ret
        exact ⟨by rw [HV.out]; rfl, HB.out⟩
  · have hl' : ((l1.length : Int) != (l2.length : Int)) = true := by simp; omega
    have HV : Hid (R = false) := hide_ (by rw [← HR.out]; exact decide_eq_false (fun e => hl (by rw [e])))
    go_enter Try.func11, Try.ntmps11
    go_wp2
    go_ret
    exact ⟨by rw [HV.out]; rfl, Below.refl _ _⟩
def pC1 : List In := [⟨6, 0, 0, 0⟩, ⟨1, 1, 1, 0⟩, ⟨1, 0, 1, 0⟩, ⟨20, 0, 0, 0⟩]
def pC2 : List In := [⟨1, -1, 2, 0⟩, ⟨1, -1, 2, 0⟩, ⟨20, 0, 0, 0⟩]
def pC3 : List In := [⟨38, 3, 0, 0⟩, ⟨33, -1, 1, 0⟩, ⟨47, 0, 1, 0⟩, ⟨20, 0, 0, 0⟩]
theorem vf1 : vfP false pC1 [0] = (0, 0) := by decide +kernel
theorem sh1 : shP false pC1 [0] = [0, 2, 3, 4] := by decide +kernel
theorem vf2 : vfP false pC2 [0] = (150, 1) := by decide +kernel
theorem vf3 : vfP true pC3 [0] = (150, 1) := by decide +kernel
theorem first_shape (gc ge : Nat) (w : World) (hc : Blk w gc 36 (cellsG inc pC1)) (he : Blk w ge 3 [.int .i64 0]) :
    Calls Try.prog 10 #[.agg #[.bool false, .slice (some ⟨gc, 0, none⟩) 4 4, .slice (some ⟨ge, 0, none⟩) 1 1]] w fun e w' => ∃ g, e = .returned (.tuple #[.slice (some ⟨g, 0, none⟩) 4 4, .agg #[.int .i64 0, .int .i64 0]]) ∧ Hid (Blk w' g 3 (cellsL .i64 [0, 2, 3, 4])) ∧ Hid (Below w.heap.size w w') := by
  have h := shape_any false (some ⟨gc, 0, none⟩) (some ⟨ge, 0, none⟩) 4 1 pC1 [0] w (by decide) (by decide) (by decide) (by decide) (by decide) (hide_ (blk_grow inc_len hc)) (hide_ (Blk.row (k := .i64) (l := [0]) he))
  refine Calls.mono h ?_
  rintro e w' ⟨h1, ⟨-, -, -, -, g, rfl, -, hb⟩ | ⟨hv, -⟩⟩
  · rw [sh1] at hb
    exact ⟨g, rfl, hide_ hb, hide_ h1⟩
  · rw [vf1] at hv
    exact absurd rfl hv
theorem first_p (gc ge : Nat) (w : World) (hc : Blk w gc 36 (cellsG inc pC1)) (he : Blk w ge 3 [.int .i64 0]) :
    Calls Try.prog 14 #[.agg #[.bool false, .slice (some ⟨gc, 0, none⟩) 4 4, .slice (some ⟨ge, 0, none⟩) 1 1]] w fun e w' => e = .returned (.agg #[.int .i64 0, .int .i64 0]) ∧ Below w.heap.size w w' := by
  have h := verify_any false (some ⟨gc, 0, none⟩) (some ⟨ge, 0, none⟩) 4 1 pC1 [0] w (by decide) (by decide) (by decide) (by decide) (by decide) (hide_ (blk_grow inc_len hc)) (hide_ (Blk.row (k := .i64) (l := [0]) he))
  rw [vf1] at h
  exact h
theorem first_q (gc ge : Nat) (w : World) (hc : Blk w gc 36 (cellsG inc pC2)) (he : Blk w ge 3 [.int .i64 0]) :
    Calls Try.prog 14 #[.agg #[.bool false, .slice (some ⟨gc, 0, none⟩) 3 3, .slice (some ⟨ge, 0, none⟩) 1 1]] w fun e w' => e = .returned (.agg #[.int .i64 150, .int .i64 1]) ∧ Below w.heap.size w w' := by
  have h := verify_any false (some ⟨gc, 0, none⟩) (some ⟨ge, 0, none⟩) 3 1 pC2 [0] w (by decide) (by decide) (by decide) (by decide) (by decide) (hide_ (blk_grow inc_len hc)) (hide_ (Blk.row (k := .i64) (l := [0]) he))
  rw [vf2] at h
  exact h
theorem first_e (gc ge : Nat) (w : World) (hc : Blk w gc 36 (cellsG inc pC3)) (he : Blk w ge 3 [.int .i64 0]) :
    Calls Try.prog 14 #[.agg #[.bool true, .slice (some ⟨gc, 0, none⟩) 4 4, .slice (some ⟨ge, 0, none⟩) 1 1]] w fun e w' => e = .returned (.agg #[.int .i64 150, .int .i64 1]) ∧ Below w.heap.size w w' := by
  have h := verify_any true (some ⟨gc, 0, none⟩) (some ⟨ge, 0, none⟩) 4 1 pC3 [0] w (by decide) (by decide) (by decide) (by decide) (by decide) (hide_ (blk_grow inc_len hc)) (hide_ (Blk.row (k := .i64) (l := [0]) he))
  rw [vf3] at h
  exact h
/-- Three things made one behind the other. -/
theorem blk3w (w : World) (xs ys zs : Array Value) (t t' t'' : TypeId) {w' : World} (h : ((w.alloc (.cells xs t)).alloc (.cells ys t')).alloc (.cells zs t'') = w') : Blk w' w.heap.size t xs.toList ∧ Blk w' (w.heap.size + 1) t' ys.toList ∧ Blk w' (w.heap.size + 1 + 1) t'' zs.toList ∧ Below w.heap.size w w' := by
  obtain ⟨a, b⟩ := blk2 w xs ys t t'
  rw [← h]
  refine ⟨a.alloc _, b.alloc _, ?_, (below2 _ _ _).alloc (by simp; omega) _⟩
  have := Blk.newA ((w.alloc (.cells xs t)).alloc (.cells ys t')) zs t''
  simpa using this
set_option maxRecDepth 100000 in
set_option maxHeartbeats 16000000 in
theorem first15_any (w : World) : Calls Try.prog 8 #[] w fun e w' => e = .returned (.bool true) ∧ Below w.heap.size w w' := by
  obtain ⟨w1, hw1⟩ : ∃ wx, ((w.alloc (.cells #[.int .i64 6, .int .i64 0, .int .i64 0, .int .i64 0, .int .i64 1, .int .i64 1, .int .i64 1, .int .i64 0, .int .i64 1, .int .i64 0, .int .i64 1, .int .i64 0, .int .i64 20, .int .i64 0, .int .i64 0, .int .i64 0] 36)).alloc (.cells #[.int .i64 0] 3)).alloc (.cells #[.bool false, .slice (some ⟨w.heap.size, 0, none⟩) 4 4, .slice (some ⟨w.heap.size + 1, 0, none⟩) 1 1] 25) = wx := ⟨_, rfl⟩
  obtain ⟨a1, a2, a3, a4⟩ := blk3w _ _ _ _ _ _ _ hw1
  have p0 := a3.cell 0; have p1 := a3.cell 1; have p2 := a3.cell 2
  simp at p0 p1 p2
  have HSh := hide_ (first_shape w.heap.size (w.heap.size + 1) w1 a1 a2)
  have HA1 := hide_ a1
  have HA2 := hide_ a2
  have HA3 := hide_ a3
  have HB1 := hide_ a4
  clear a1 a2 a3 a4
  go_enter Try.func8, Try.ntmps8
  go_upto_region 2 with fail
  try rw [hw1]
  clear hw1
  go_wp2_with fail
  refine HSh.out.mono ?_
  rintro e w2 ⟨g, rfl, HG2, HB2⟩
  clear HSh p0 p1 p2
  go_upto_region 3 with fail
  obtain ⟨w3, hw3⟩ : ∃ wx, w2.alloc (.cells #[.int .i64 0, .int .i64 0] 30) = wx := ⟨_, rfl⟩
  have hB3 : Below w2.heap.size w2 w3 := by rw [← hw3]; exact below1 _ _
  have hK3 : Blk w3 w2.heap.size 30 [.int .i64 0, .int .i64 0] := by rw [← hw3]; exact Blk.newA _ _ _
  try rw [hw3]
  clear hw3
  have HK3 := hide_ hK3
  have HG3 := hide_ (HG2.out.later hB3)
  have HA13 := hide_ ((HA1.out.later HB2.out).later hB3)
  have HA23 := hide_ ((HA2.out.later HB2.out).later hB3)
  have HA33 := hide_ ((HA3.out.later HB2.out).later hB3)
  have HB3 := hide_ (below_to (below_to HB1.out HB2.out) hB3)
  obtain ⟨qf, hqf⟩ : ∃ qf, w2.heap.size = qf := ⟨_, rfl⟩
  rw [hqf] at HK3 ⊢
  clear hK3 hB3 hqf HG2 HA1 HA2 HA3 HB1 HB2
  go_upto_region 4 with fail
  obtain ⟨w4, hw4⟩ : ∃ wx, ((w3.alloc (.cells #[.int .i64 1, .int .i64 (-1), .int .i64 2, .int .i64 0, .int .i64 1, .int .i64 (-1), .int .i64 2, .int .i64 0, .int .i64 20, .int .i64 0, .int .i64 0, .int .i64 0] 36)).alloc (.cells #[.int .i64 0] 3)).alloc (.cells #[.bool false, .slice (some ⟨w3.heap.size, 0, none⟩) 3 3, .slice (some ⟨w3.heap.size + 1, 0, none⟩) 1 1] 25) = wx := ⟨_, rfl⟩
  obtain ⟨b1, b2, b3, b4⟩ := blk3w _ _ _ _ _ _ _ hw4
  try rw [hw4]
  clear hw4
  obtain ⟨q3, hq3⟩ : ∃ q3, w3.heap.size = q3 := ⟨_, rfl⟩
  rw [hq3] at b1 b2 b3 ⊢
  have HK4 := hide_ (HK3.out.later b4)
  have HG4 := hide_ (HG3.out.later b4)
  have HA14 := hide_ (HA13.out.later b4)
  have HA24 := hide_ (HA23.out.later b4)
  have HA34 := hide_ (HA33.out.later b4)
  have HB4 := hide_ (below_to HB3.out b4)
  have Hb1 := hide_ b1
  have Hb2 := hide_ b2
  have Hb3 := hide_ b3
  clear b1 b2 b3 b4 hq3 HK3 HG3 HA13 HA23 HA33 HB3
  go_upto_region 5 with fail
  obtain ⟨w5, hw5⟩ : ∃ wx, ((w4.alloc (.cells #[.int .i64 38, .int .i64 3, .int .i64 0, .int .i64 0, .int .i64 33, .int .i64 (-1), .int .i64 1, .int .i64 0, .int .i64 47, .int .i64 0, .int .i64 1, .int .i64 0, .int .i64 20, .int .i64 0, .int .i64 0, .int .i64 0] 36)).alloc (.cells #[.int .i64 0] 3)).alloc (.cells #[.bool true, .slice (some ⟨w4.heap.size, 0, none⟩) 4 4, .slice (some ⟨w4.heap.size + 1, 0, none⟩) 1 1] 25) = wx := ⟨_, rfl⟩
  obtain ⟨b1, b2, b3, b4⟩ := blk3w _ _ _ _ _ _ _ hw5
  try rw [hw5]
  clear hw5
  obtain ⟨q4, hq4⟩ : ∃ q4, w4.heap.size = q4 := ⟨_, rfl⟩
  rw [hq4] at b1 b2 b3 ⊢
  have f0 := (HK4.out.later b4).cell 0
  have f1 := (HK4.out.later b4).cell 1
  simp at f0 f1
  obtain ⟨w6, hw6⟩ : ∃ wx, w5.alloc (.cells #[.int .i64 0, .int .i64 2, .int .i64 3, .int .i64 4] 3) = wx := ⟨_, rfl⟩
  have hB6 : Below w5.heap.size w5 w6 := by rw [← hw6]; exact below1 _ _
  have hK6 : Blk w6 w5.heap.size 3 (cellsL .i64 [0, 2, 3, 4]) := by rw [← hw6]; exact Blk.newA _ _ _
  have hBA := below_to b4 hB6
  have HIn := hide_ (ints_any (some ⟨g, 0, none⟩) (some ⟨w5.heap.size, 0, none⟩) 4 4 [0, 2, 3, 4] [0, 2, 3, 4] w6 (by decide) (by decide) (hide_ ((HG4.out.later hBA).row)) (hide_ hK6.row))
  have HB6 := hide_ (below_to HB4.out hBA)
  have HA16 := hide_ (HA14.out.later hBA)
  have HA26 := hide_ (HA24.out.later hBA)
  have HA36 := hide_ (HA34.out.later hBA)
  have HC1 := hide_ (Hb1.out.later hBA)
  have HC2 := hide_ (Hb2.out.later hBA)
  have HC3 := hide_ (Hb3.out.later hBA)
  have HD1 := hide_ (b1.later hB6)
  have HD2 := hide_ (b2.later hB6)
  have HD3 := hide_ (b3.later hB6)
  clear b1 b2 b3 b4 hq4 hB6 hK6 hBA HK4 HG4 HA14 HA24 HA34 HB4 Hb1 Hb2 Hb3
  go_wp2_with fail
  try rw [hw6]
  clear hw6 f0 f1
  refine HIn.out.mono ?_
  rintro e w7 ⟨rfl, hB7⟩
  have p0 := (HA36.out.later hB7).cell 0; have p1 := (HA36.out.later hB7).cell 1; have p2 := (HA36.out.later hB7).cell 2
  simp at p0 p1 p2
  have HV1 := hide_ (first_p w.heap.size (w.heap.size + 1) w7 (HA16.out.later hB7) (HA26.out.later hB7))
  have HB7 := hide_ (below_to HB6.out hB7)
  have HE1 := hide_ (HC1.out.later hB7)
  have HE2 := hide_ (HC2.out.later hB7)
  have HE3 := hide_ (HC3.out.later hB7)
  have HF1 := hide_ (HD1.out.later hB7)
  have HF2 := hide_ (HD2.out.later hB7)
  have HF3 := hide_ (HD3.out.later hB7)
  clear hB7 HIn HA16 HA26 HA36 HB6 HC1 HC2 HC3 HD1 HD2 HD3
  go_wp2_with fail
  refine HV1.out.mono ?_
  rintro e w8 ⟨rfl, hB8⟩
  clear p0 p1 p2
  have p0 := (HE3.out.later hB8).cell 0; have p1 := (HE3.out.later hB8).cell 1; have p2 := (HE3.out.later hB8).cell 2
  simp at p0 p1 p2
  have HV2 := hide_ (first_q q3 (q3 + 1) w8 (HE1.out.later hB8) (HE2.out.later hB8))
  have HB8 := hide_ (below_to HB7.out hB8)
  have HH1 := hide_ (HF1.out.later hB8)
  have HH2 := hide_ (HF2.out.later hB8)
  have HH3 := hide_ (HF3.out.later hB8)
  clear hB8 HV1 HE1 HE2 HE3 HF1 HF2 HF3 HB7
  go_wp2_with fail
  refine HV2.out.mono ?_
  rintro e w9 ⟨rfl, hB9⟩
  clear p0 p1 p2
  have p0 := (HH3.out.later hB9).cell 0; have p1 := (HH3.out.later hB9).cell 1; have p2 := (HH3.out.later hB9).cell 2
  simp at p0 p1 p2
  have HV3 := hide_ (first_e q4 (q4 + 1) w9 (HH1.out.later hB9) (HH2.out.later hB9))
  have HB9 := hide_ (below_to HB8.out hB9)
  clear hB9 HV2 HH1 HH2 HH3 HB8
  go_wp2_with fail
  refine HV3.out.mono ?_
  rintro e w10 ⟨rfl, hB10⟩
  have HB10 := hide_ (below_to HB9.out hB10)
  clear hB10 p0 p1 p2
  go_wp2_with fail
  go_ret
  exact ⟨rfl, HB10.out⟩
end Go.Proofs.Ytnmffeeieclmfaa

/- What SoundOwn holds in memory: lists that were handed out, copies of them; then they are written over, and grow. (As NamesOwn's.) -/
namespace Go.Proofs.Ytnmffeeieclmfaa
open Go.RowKit
set_option linter.unusedVariables false

theorem infoI : (Try.prog.info? 23).map (fun i => (i.zero, i.size, i.bytes)) = some (some (.slice none 0 0), 1, 24) := by kernel_rfl
theorem own_mono {w : World} {B B' n c : Nat} {e : TypeId} {v : Value} {xs : List Value} (h : w.ownsRow B e c v n xs) (hB : B' ≤ B) : w.ownsRow B' e c v n xs := by
  refine ⟨h.1, ?_⟩
  rcases h.2 with h0 | ⟨g, cap, cur, h1, h2, r⟩
  · exact .inl h0
  · exact .inr ⟨g, cap, cur, h1, Nat.le_trans hB h2, r⟩
theorem own_form {B n c : Nat} {w : World} {v : Value} {e : TypeId} {xs : List Value} (h : w.ownsRow B e c v n xs) : ∃ a cap, v = .slice a n cap := by
  rcases h.2 with ⟨rfl, h0⟩ | ⟨g, cap, cur, rfl, _⟩
  · exact ⟨none, 0, by rw [h0]⟩
  · exact ⟨_, cap, rfl⟩
theorem RowE.form {B N : Nat} {w : World} {v : Value} {F : Nat → Value} {e : TypeId} (h : RowE e B w v N F) : ∃ a cap, v = .slice a N cap := own_form h
/-- append(nil, x...). -/
theorem run_copyI (w : World) (B : Nat) (v : Value) (ts : List Int) (h : w.ownsRow B 3 1 v ts.length (cellsL .i64 ts)) (hm : ts.length ≤ 2000000) :
    ∃ a' c' w', (Builtin.append_ #[23, 23] 23 #[.slice none 0 0, v]).run Try.prog w = .ok (.slice a' ts.length c') w' ∧ w'.ownsRow w.heap.size 3 1 (.slice a' ts.length c') ts.length (cellsL .i64 ts) ∧ Below w.heap.size w w' := by
  obtain ⟨a, c, rfl, hrow, hnil, -⟩ := own_open h rfl
  obtain ⟨v', w', h1, h2, h3⟩ := run_copy elI w 23 w.heap.size a ts.length c ts rfl hrow hnil (by unfold maxLen; omega) (by omega) (Nat.le_refl _)
  obtain ⟨a', c', rfl⟩ := own_form h2
  exact ⟨a', c', w', h1, h2, ((Upd.refl (fun _ => False) w).grown h3 (fun k hk => by cases hk)).below _ (Nat.le_refl _) (fun _ h => h.elim)⟩
theorem own_one {w : World} {B n c : Nat} {e : TypeId} {v : Value} {xs : List Value} (h : w.ownsRow B e c v n xs) : v.oneCell' = true := by
  rcases h.2 with ⟨rfl, _⟩ | ⟨g, cap, cur, rfl, _⟩ <;> rfl

/-- NG lists, nG of them in got; NW copies, nW of them in was. -/
structure Gs (B : Nat) (w : World) (vG vW : Value) (nG NG nW NW : Nat) (F H : Nat → Value) (L : Nat → List Int) : Prop where
  rG : RowE 23 B w vG nG F
  rW : RowE 23 B w vW nW H
  oG : ∀ j, j < NG → w.ownsRow B 3 1 (F j) (L j).length (cellsL .i64 (L j))
  oW : ∀ j, j < NW → w.ownsRow B 3 1 (H j) (L j).length (cellsL .i64 (L j))
  dG : ∀ i j k, i < NG → j < NG → i ≠ j → (F i).ownBlock = some k → (F j).ownBlock ≠ some k
  ne : ∀ k, vG.ownBlock = some k → vW.ownBlock ≠ some k
  few : ∀ j, j < NG → (L j).length ≤ 65536
  hB : B ≤ w.heap.size
section
variable {B : Nat} {w w' : World} {vG vW : Value} {nG NG nW NW : Nat} {F H : Nat → Value} {L : Nat → List Int}
theorem Gs.nil (w : World) (hB : B ≤ w.heap.size) : Gs B w (.slice none 0 0) (.slice none 0 0) 0 0 0 0 F H L :=
  ⟨RowE.nil _ _ _ _, RowE.nil _ _ _ _, fun j hj => by omega, fun j hj => by omega, fun i j k hi => by omega, fun k hk => by simp [Value.ownBlock] at hk, fun j hj => by omega, hB⟩
theorem Gs.later (h : Gs B w vG vW nG NG nW NW F H L) (hB : Below w.heap.size w w') : Gs B w' vG vW nG NG nW NW F H L :=
  ⟨h.rG.later hB, h.rW.later hB, fun j hj => ownS_upd (h.oG j hj) (Upd.of_below (S := fun _ => False) hB) (fun _ _ h => h), fun j hj => ownS_upd (h.oW j hj) (Upd.of_below (S := fun _ => False) hB) (fun _ _ h => h), h.dG, h.ne, h.few, Nat.le_trans h.hB hB.size⟩
theorem Gs.moreG (h : Gs B w vG vW nG NG nW NW F H L) (hB : Below w.heap.size w w') (hn : nG ≤ NG) (hW : NW ≤ NG) {x : Value} {ts : List Int} (ho : w'.ownsRow w.heap.size 3 1 x ts.length (cellsL .i64 ts)) (hf : ts.length ≤ 65536) : Gs B w' vG vW nG (NG + 1) nW NW (ext F NG x) H (ext L NG ts) := by
  have h' := h.later hB
  refine ⟨h'.rG.congr (fun j hj => by rw [ext_ne _ _ _ _ (by omega)]), h'.rW, fun j hj => ?_, fun j hj => by rw [ext_ne _ _ _ _ (by omega)]; exact h'.oW j hj, fun i j k hi hj hij hk hk2 => ?_, h.ne, fun j hj => ?_, h'.hB⟩
  · by_cases hN : j = NG
    · subst hN; rw [ext_at, ext_at]; exact own_mono ho h.hB
    · rw [ext_ne _ _ _ _ hN, ext_ne _ _ _ _ hN]; exact h'.oG j (by omega)
  · by_cases hi2 : i = NG
    · rw [hi2, ext_at] at hk
      rw [ext_ne _ _ _ _ (by omega)] at hk2
      have h1 := (ho.lt k hk).1
      have h2 := ((h.oG j (by omega)).lt k hk2).2
      omega
    · rw [ext_ne _ _ _ _ hi2] at hk
      by_cases hj2 : j = NG
      · rw [hj2, ext_at] at hk2
        have h1 := (ho.lt k hk2).1
        have h2 := ((h.oG i (by omega)).lt k hk).2
        omega
      · rw [ext_ne _ _ _ _ hj2] at hk2
        exact h.dG i j k (by omega) (by omega) hij hk hk2
  · by_cases hN : j = NG
    · subst hN; rw [ext_at]; exact hf
    · rw [ext_ne _ _ _ _ hN]; exact h.few j (by omega)
theorem Gs.moreW (h : Gs B w vG vW nG NG nW NW F H L) (hB : Below w.heap.size w w') (hn : nW ≤ NW) {x : Value} (ho : w'.ownsRow w.heap.size 3 1 x (L NW).length (cellsL .i64 (L NW))) : Gs B w' vG vW nG NG nW (NW + 1) F (ext H NW x) L := by
  have h' := h.later hB
  refine ⟨h'.rG, h'.rW.congr (fun j hj => by rw [ext_ne _ _ _ _ (by omega)]), h'.oG, fun j hj => ?_, h.dG, h.ne, h.few, h'.hB⟩
  by_cases hN : j = NW
  · subst hN; rw [ext_at]; exact own_mono ho h.hB
  · rw [ext_ne _ _ _ _ hN]; exact h'.oW j (by omega)
theorem Gs.pushG (h : Gs B w vG vW nG NG nW NW F H L) (hn : nG + 1 ≤ NG) (hN : nG ≤ 1000) :
    ∃ g cap w', (Builtin.append_ #[34, 34] 34 #[vG, .slice (some ⟨w.heap.size, 0, none⟩) 1 1]).run Try.prog (w.alloc (.cells #[F nG] 23)) = .ok (.slice (some ⟨g, 0, none⟩) (nG + 1) cap) w' ∧ Gs B w' (.slice (some ⟨g, 0, none⟩) (nG + 1) cap) vW (nG + 1) NG nW NW F H L ∧ Below B w w' ∧ (∀ q t xs, t ≠ 23 → Blk w q t xs → Blk w' q t xs) := by
  obtain ⟨g, cap, w', r, hr, hu, hl⟩ := h.rG.push (P := Try.prog) (t := 34) (bytes := 24) Try.underlying34 infoI rfl (own_one (h.oG _ (by omega))) (by unfold maxLen; omega) (by omega) h.hB 34
  have hk : ∀ q t xs, t ≠ 23 → Blk w q t xs → Blk w' q t xs := fun q t xs ht hq => hq.upd hu fun e => by
    obtain ⟨zs, hz⟩ := ownS_type h.rG e
    exact ht (blk_type hq hz)
  have hne : ∀ {v : Value} {n : Nat} {xs : List Value}, w.ownsRow B 3 1 v n xs → w'.ownsRow B 3 1 v n xs := fun ho => ownS_upd ho hu fun k hk e => by
    obtain ⟨zs, hz⟩ := ownS_type h.rG e
    obtain ⟨ys, hy⟩ := ownS_type ho hk
    exact absurd (blk_type hy hz) (by decide)
  refine ⟨g, cap, w', r, ⟨hr, h.rW.upd hu (fun k hk e => h.ne k e hk), fun j hj => hne (h.oG j hj), fun j hj => hne (h.oW j hj), h.dG, fun k hk hk2 => ?_, h.few, Nat.le_trans h.hB hu.size⟩, hu.below B h.hB (fun k hk => (h.rG.lt k hk).1), hk⟩
  have e : g = k := own_is hk
  rcases hl with e1 | e1
  · exact h.ne k (by rw [e1, e]) hk2
  · have := (h.rW.lt k hk2).2; omega
theorem Gs.pushW (h : Gs B w vG vW nG NG nW NW F H L) (hn : nW + 1 ≤ NW) (hN : nW ≤ 1000) :
    ∃ g cap w', (Builtin.append_ #[34, 34] 34 #[vW, .slice (some ⟨w.heap.size, 0, none⟩) 1 1]).run Try.prog (w.alloc (.cells #[H nW] 23)) = .ok (.slice (some ⟨g, 0, none⟩) (nW + 1) cap) w' ∧ Gs B w' vG (.slice (some ⟨g, 0, none⟩) (nW + 1) cap) nG NG (nW + 1) NW F H L ∧ Below B w w' ∧ (∀ q t xs, t ≠ 23 → Blk w q t xs → Blk w' q t xs) := by
  obtain ⟨g, cap, w', r, hr, hu, hl⟩ := h.rW.push (P := Try.prog) (t := 34) (bytes := 24) Try.underlying34 infoI rfl (own_one (h.oW _ (by omega))) (by unfold maxLen; omega) (by omega) h.hB 34
  have hk : ∀ q t xs, t ≠ 23 → Blk w q t xs → Blk w' q t xs := fun q t xs ht hq => hq.upd hu fun e => by
    obtain ⟨zs, hz⟩ := ownS_type h.rW e
    exact ht (blk_type hq hz)
  have hne : ∀ {v : Value} {n : Nat} {xs : List Value}, w.ownsRow B 3 1 v n xs → w'.ownsRow B 3 1 v n xs := fun ho => ownS_upd ho hu fun k hk e => by
    obtain ⟨zs, hz⟩ := ownS_type h.rW e
    obtain ⟨ys, hy⟩ := ownS_type ho hk
    exact absurd (blk_type hy hz) (by decide)
  refine ⟨g, cap, w', r, ⟨h.rG.upd hu (fun k hk e => h.ne k hk e), hr, fun j hj => hne (h.oG j hj), fun j hj => hne (h.oW j hj), h.dG, fun k hk hk2 => ?_, h.few, Nat.le_trans h.hB hu.size⟩, hu.below B h.hB (fun k hk => (h.rW.lt k hk).1), hk⟩
  have e : g = k := own_is hk2
  rcases hl with e1 | e1
  · exact h.ne k hk (by rw [e1, e])
  · have := (h.rG.lt k hk).2; omega
end
def mks (i n : Nat) : List Int := List.replicate n (-5 - (i : Int))
theorem mks_len (i n : Nat) : (mks i n).length = n := by simp [mks]
theorem mks_succ (i n : Nat) : mks i (n + 1) = mks i n ++ [-5 - (i : Int)] := by simp [mks, List.replicate_succ']
theorem mks_at (i n k : Nat) (h : k < n) : (mks i n).getD k 0 = -5 - (i : Int) := by simp [mks, List.getD, h]
theorem put_own {B n cap g : Nat} {w : World} {N : List Int} (h : w.ownsRow B 3 1 (.slice (some ⟨g, 0, none⟩) n cap) N.length (cellsL .i64 N)) (k : Nat) (hk : k < N.length) (t : Int) : (w.setCell ⟨g, k, none⟩ (.int .i64 t)).ownsRow B 3 1 (.slice (some ⟨g, 0, none⟩) n cap) (N.set k t).length (cellsL .i64 (N.set k t)) := by
  obtain ⟨g', cap', ys, e, hb, hn, hm, hl, ht, hK⟩ := ownS_blk h (by omega)
  have e0 : g = g' ∧ n = N.length ∧ cap = cap' := by simpa using e
  obtain ⟨rfl, rfl, rfl⟩ := e0
  have h9 := ownS_of_blk (n := N.length) (c := 1) (hK.set k (.int .i64 t)) hb (by rw [List.length_set]; exact hl) hn hm
  rw [List.take_set, ht, cellsL_set] at h9
  rw [List.length_set]
  exact h9
/-- Lists of the call's own, apart from one another. -/
structure Gm (B : Nat) (w : World) (vG : Value) (N : Nat) (F : Nat → Value) (C : Nat → List Int) : Prop where
  rG : RowE 23 B w vG N F
  o : ∀ j, j < N → w.ownsRow B 3 1 (F j) (C j).length (cellsL .i64 (C j))
  d : ∀ i j k, i < N → j < N → i ≠ j → (F i).ownBlock = some k → (F j).ownBlock ≠ some k
  few : ∀ j, j < N → (C j).length ≤ 65536
  hB : B ≤ w.heap.size
section
variable {B : Nat} {w w' : World} {vG : Value} {N : Nat} {F : Nat → Value} {C : Nat → List Int}
theorem Gs.gm {vW : Value} {nW NW : Nat} {H : Nat → Value} (h : Gs B w vG vW N N nW NW F H C) : Gm B w vG N F C := ⟨h.rG, h.oG, h.dG, h.few, h.hB⟩
theorem Gm.later (h : Gm B w vG N F C) (hB : Below w.heap.size w w') : Gm B w' vG N F C :=
  ⟨h.rG.later hB, fun j hj => ownS_upd (h.o j hj) (Upd.of_below (S := fun _ => False) hB) (fun _ _ h => h), h.d, h.few, Nat.le_trans h.hB hB.size⟩
theorem Gm.mark (h : Gm B w vG N F C) {i k g n cap : Nat} (hi : i < N) (hF : F i = .slice (some ⟨g, 0, none⟩) n cap) (hk : k < (C i).length) (t : Int) : Gm B (w.setCell ⟨g, k, none⟩ (.int .i64 t)) vG N F (ext C i ((C i).set k t)) := by
  have hu := (Upd.refl (fun q => q = g) w).set ⟨g, k, none⟩ (.int .i64 t) (.inl rfl)
  have hob : (F i).ownBlock = some g := by rw [hF]; rfl
  refine ⟨h.rG.upd hu fun q hq e => ?_, fun j hj => ?_, h.d, fun j hj => ?_, Nat.le_trans h.hB hu.size⟩
  · subst e
    obtain ⟨zs, hz⟩ := ownS_type h.rG hq
    obtain ⟨ys, hy⟩ := ownS_type (h.o i hi) hob
    exact absurd (blk_type hy hz) (by decide)
  · by_cases hj2 : j = i
    · subst hj2
      rw [ext_at]
      have := h.o j hi
      rw [hF] at this ⊢
      exact put_own this k hk t
    · rw [ext_ne _ _ _ _ hj2]
      exact ownS_upd (h.o j hj) hu fun q hq e => by
        subst e
        exact h.d i j q hi hj (fun e => hj2 e.symm) hob hq
  · by_cases hj2 : j = i
    · subst hj2; rw [ext_at, List.length_set]; exact h.few j hi
    · rw [ext_ne _ _ _ _ hj2]; exact h.few j hj
theorem Gm.congr {D : Nat → List Int} (h : Gm B w vG N F C) (e : ∀ j, j < N → C j = D j) : Gm B w vG N F D :=
  ⟨h.rG, fun j hj => by rw [← e j hj]; exact h.o j hj, h.d, fun j hj => by rw [← e j hj]; exact h.few j hj, h.hB⟩
end
/-- Lists with their marks, and the first p of them, longer by one. -/
structure Gx (B : Nat) (w : World) (vG vM : Value) (N p : Nat) (F M : Nat → Value) (n : Nat → Nat) : Prop where
  g : Gm B w vG N F (fun j => mks j (n j))
  rM : RowE 23 B w vM p M
  oM : ∀ j, j < p → w.ownsRow B 3 1 (M j) (n j + 1) (cellsL .i64 (mks j (n j + 1)))
  dM : ∀ i j k, i < p → j < N → i ≠ j → (M i).ownBlock = some k → (F j).ownBlock ≠ some k
  ne : ∀ k, vG.ownBlock = some k → vM.ownBlock ≠ some k
section
variable {B : Nat} {w w' : World} {vG vM : Value} {N p : Nat} {F M : Nat → Value} {n : Nat → Nat}
theorem Gx.later (h : Gx B w vG vM N p F M n) (hB : Below w.heap.size w w') : Gx B w' vG vM N p F M n :=
  ⟨h.g.later hB, h.rM.later hB, fun j hj => ownS_upd (h.oM j hj) (Upd.of_below (S := fun _ => False) hB) (fun _ _ h => h), h.dM, h.ne⟩
theorem Gx.begin (h : Gm B w vG N F (fun j => mks j (n j))) : Gx B w vG (.slice none 0 0) N 0 F M n :=
  ⟨h, RowE.nil _ _ _ _, fun j hj => by omega, fun i j k hi => by omega, fun k _ hk => by simp [Value.ownBlock] at hk⟩
end
section
variable {B : Nat} {w w' : World} {vG vM : Value} {N p : Nat} {F M : Nat → Value} {n : Nat → Nat}
/-- more = append(more, append(got[p], mark)). -/
theorem Gx.step (h : Gx B w vG vM N p F M n) (hp : p < N) (hN : N ≤ 1000) :
    ∃ g1 c1 w1, (Builtin.append_ #[23, 23] 23 #[F p, .slice (some ⟨w.heap.size, 0, none⟩) 1 1]).run Try.prog (w.alloc (.cells #[.int .i64 (-5 - (p : Int))] 3)) = .ok (.slice (some ⟨g1, 0, none⟩) (n p + 1) c1) w1 ∧
      ∃ g2 c2 w2, (Builtin.append_ #[34, 34] 34 #[vM, .slice (some ⟨w1.heap.size, 0, none⟩) 1 1]).run Try.prog (w1.alloc (.cells #[.slice (some ⟨g1, 0, none⟩) (n p + 1) c1] 23)) = .ok (.slice (some ⟨g2, 0, none⟩) (p + 1) c2) w2 ∧
        Gx B w2 vG (.slice (some ⟨g2, 0, none⟩) (p + 1) c2) N (p + 1) F (ext M p (.slice (some ⟨g1, 0, none⟩) (n p + 1) c1)) n ∧ Below B w w2 := by
  have hn := h.g.few p hp
  simp only [mks_len] at hn
  have ho := h.g.o p hp
  simp only [mks_len] at ho
  obtain ⟨g1, c1, w1, r1, o1, o2, u1, l1⟩ := run_pushK (P := Try.prog) (t := 23) (e := 3) (z := .int .i64 0) (bytes := 8) Try.underlying23 (by kernel_rfl) rfl (by decide) w 23 ho [.int .i64 (-5 - (p : Int))] rfl (by intro u hu; simp at hu; subst hu; rfl) (by unfold maxLen; omega) (by omega) h.g.hB
  have hB1 : B ≤ w1.heap.size := Nat.le_trans h.g.hB u1.size
  have hne1 : ∀ {v : Value} {e : TypeId} {c m : Nat} {xs : List Value}, e ≠ 3 → w.ownsRow B e c v m xs → w1.ownsRow B e c v m xs := fun he hh => ownS_upd hh u1 fun k hk e2 => by
    obtain ⟨zs, hz⟩ := ownS_type ho e2
    obtain ⟨ys, hy⟩ := ownS_type hh hk
    exact he (blk_type hy hz)
  have rM1 : RowE 23 B w1 vM p (ext M p (.slice (some ⟨g1, 0, none⟩) (n p + 1) c1)) := RowE.congr (hne1 (by decide) h.rM) (fun j hj => by rw [ext_ne _ _ _ _ (by omega)])
  obtain ⟨g2, c2, w2, r2, q2, u2, l2⟩ := rM1.push (P := Try.prog) (t := 34) (bytes := 24) Try.underlying34 infoI rfl (by rw [ext_at]; rfl) (by unfold maxLen; omega) (by omega) hB1 34
  rw [ext_at] at r2
  have hne2 : ∀ {v : Value} {m : Nat} {xs : List Value}, w1.ownsRow B 3 1 v m xs → w2.ownsRow B 3 1 v m xs := fun hh => ownS_upd hh u2 fun k hk e2 => by
    obtain ⟨zs, hz⟩ := ownS_type rM1 e2
    obtain ⟨ys, hy⟩ := ownS_type hh hk
    exact absurd (blk_type hy hz) (by decide)
  have hbel : Below B w w2 := (u1.below B h.g.hB (fun k hk => (ho.lt k hk).1)).trans (u2.below B hB1 (fun k hk => (rM1.lt k hk).1))
  have hMlt : ∀ i, i < p → ∀ k, (M i).ownBlock = some k → k < w.heap.size := fun i hi k hk => ((h.oM i hi).lt k hk).2
  refine ⟨g1, c1, w1, r1, g2, c2, w2, r2, ⟨⟨?_, fun j hj => ?_, h.g.d, h.g.few, Nat.le_trans hB1 u2.size⟩, q2, fun j hj => ?_, fun i j k hi hj hij hk hk2 => ?_, fun k hk hk2 => ?_⟩, hbel⟩
  · exact (RowE.upd (hne1 (by decide) h.g.rG) u2 (fun k hk e => h.ne k hk e))
  · refine hne2 ?_
    by_cases hj2 : j = p
    · subst hj2; simp only [mks_len]; exact o2
    · exact ownS_upd (h.g.o j hj) u1 fun k hk e => h.g.d p j k hp hj (fun e => hj2 e.symm) e hk
  · refine hne2 ?_
    by_cases hj2 : j = p
    · subst hj2
      rw [ext_at, mks_succ, cellsL_append]
      exact o1
    · rw [ext_ne _ _ _ _ hj2]
      exact ownS_upd (h.oM j (by omega)) u1 fun k hk e => h.dM j p k (by omega) hp hj2 hk e
  · by_cases hi2 : i = p
    · rw [hi2, ext_at] at hk
      have e : g1 = k := own_is hk
      rcases l1 with l1 | l1
      · exact h.g.d p j k hp hj (by omega) (by rw [l1, e]) hk2
      · have := ((h.g.o j hj).lt k hk2).2; omega
    · rw [ext_ne _ _ _ _ hi2] at hk
      exact h.dM i j k (by omega) hj hij hk hk2
  · have e : g2 = k := own_is hk2
    rcases l2 with l2 | l2
    · exact h.ne k hk (by rw [l2, e])
    · have h1 := (h.g.rG.lt k hk).2
      have h2 := u1.size
      omega
end
end Go.Proofs.Ytnmffeeieclmfaa
