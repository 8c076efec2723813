/- Code: the document's operands. -/
import Derived.Test.YteadmiikenpjeaaDoorCvl
import Derived.Test.YteadmiikenpjeaaDoorCdl
import Derived.Test.YteadmiikenpjeaaDoorCmf
namespace Go.Proofs.YteadmiikenpjeaaDoor
open Go.RowKit
set_option linter.unusedVariables false

set_option maxRecDepth 100000 in
set_option maxHeartbeats 8000000 in
theorem roperands_any (x : In) (sN : ByteArray) (l0 l1 l2 : UInt8) (k : Int × Int × Int) (h0 : l0 = 32 ↔ k.1 = 0) (h1 : l1 = 32 ↔ k.2.1 = 0) (h2 : l2 = 32 ↔ k.2.2 = 0) (w : World) :
    Calls Tryd.prog 46 #[.agg #[.int .i64 x.op, .int .i64 x.a, .int .i64 x.b, .int .i64 x.c], .agg #[.string sN, .string ⟨#[l0, l1, l2]⟩]] w fun e w' => (∃ v, e = .returned v ∧ Hid (IOwn w' w.heap.size v (nmj k x 3))) ∧ Below w.heap.size w w' := by
  obtain ⟨w1, hw1⟩ : ∃ wx, wx = ((w.alloc (.cells #[.int .i64 x.op, .int .i64 x.a, .int .i64 x.b, .int .i64 x.c] 41)).alloc (.cells #[.string sN, .string ⟨#[l0, l1, l2]⟩] 52)).alloc (.cells #[.int .i64 x.a, .int .i64 x.b, .int .i64 x.c] 3) := ⟨_, rfl⟩
  have hB1 : Below w.heap.size w w1 := by rw [hw1]; exact below3 _ _ _ _
  obtain ⟨kx, kf, kl⟩ := blk3 w #[.int .i64 x.op, .int .i64 x.a, .int .i64 x.b, .int .i64 x.c] #[.string sN, .string ⟨#[l0, l1, l2]⟩] #[.int .i64 x.a, .int .i64 x.b, .int .i64 x.c] 41 52 3
  rw [← hw1] at kx kf kl
  have KF := hide_ kf
  have KL := hide_ kl
  have HB1 := hide_ hB1
  have hsz := kl.lt
  clear hB1 kx kf kl
  have ix0 := ix_s0 l0 l1 l2
  have ix1 := ix_s1 l0 l1 l2
  have ix2 := ix_s2 l0 l1 l2
  have q : ∀ c : UInt8, (((c.toNat : Nat) : Int) != 32) = !decide (c = 32) := fun c => by
    by_cases h : c = 32
    · rw [h]; rfl
    · rw [decide_eq_false h, bne_iff_ne.2]
      · rfl
      · intro e
        exact h (UInt8.toNat_inj.1 (by show c.toNat = 32; omega))
  go_enter Tryd.func46, Tryd.ntmps46
  go_upto_region 3 with fail
  rw [← hw1]
  clear hw1
  go_wp2_with fail
  go_loopw [5, 16] (fun x5 x16 wr => ∃ (v : Value) (j : Nat), v = x5 ∧ j ≤ 3 ∧ x16 = .int .i64 (j : Int) ∧ Hid (IOwn wr w1.heap.size v (nmj k x j)) ∧ Hid (Below w1.heap.size w1 wr)) (fun _ x16 _ => 3 - (intOf x16).toNat)
  case atStart => exact ⟨_, 0, rfl, by omega, rfl, hide_ (IOwn.nil _ _), hide_ (Below.refl _ _)⟩
  case round =>
    obtain ⟨v, j, rfl, hj, rfl, HO, HB⟩ := hrel
    generalize wr = wq at *
    have f1 := (KF.out.later HB.out).cell 1
    have y0 := (KL.out.later HB.out).cell 0; have y1 := (KL.out.later HB.out).cell 1; have y2 := (KL.out.later HB.out).cell 2
    simp at f1 y0 y1 y2
    by_cases hlt : j < 3
    · have h3 : j = 0 ∨ j = 1 ∨ j = 2 := by omega
      have hlen := nmj_len x k j
      rcases h3 with rfl | rfl | rfl
      · by_cases hk : k.1 = 0
        · have hb : (((l0.toNat : Nat) : Int) != 32) = false := by rw [q, decide_eq_true (h0.2 hk)]; rfl
          have HO2 : Hid (IOwn wq w1.heap.size v (nmj k x 1)) := hide_ (by
            have e : nmj k x 1 = nmj k x 0 := by
              show nmj k x 0 ++ (if kat k 0 ≠ 0 then [oat x 0] else []) = nmj k x 0
              rw [if_neg (by show ¬ k.1 ≠ 0; simp [hk]), List.append_nil]
            rw [e]; exact HO.out)
          clear hk q h0 h1 h2
          go_wp2_with fail
          go_roundw
          case rel => exact ⟨v, 1, rfl, by omega, by go_num, HO2, HB⟩
          case measure => simp [intOf]
        · have hb : (((l0.toNat : Nat) : Int) != 32) = true := by rw [q, decide_eq_false (fun e => hk (h0.1 e))]; rfl
          obtain ⟨g, cap, w8, hrun, hO8, hU8, -⟩ := HO.out.push x.a (by omega) HB.out.size
          have hB8 := hU8.below w1.heap.size HB.out.size (fun n hn => (HO.out.lies hn).1)
          have HB8 := hide_ (HB.out.trans hB8)
          have HO8 : Hid (IOwn w8 w1.heap.size (.slice (some ⟨g, 0, none⟩) ((nmj k x 0).length + 1) cap) (nmj k x 1)) := hide_ (by
            have e : nmj k x 1 = nmj k x 0 ++ [x.a] := by
              show nmj k x 0 ++ (if kat k 0 ≠ 0 then [oat x 0] else []) = nmj k x 0 ++ [x.a]
              rw [if_pos (show kat k 0 ≠ 0 from hk)]
              rfl
            rw [e]; exact hO8)
          have HR := hide_ hrun
          generalize (nmj k x 0).length + 1 = ln at *
          clear hk q h0 h1 h2 hrun hO8 hU8 hB8 hlen
          go_wp2_with (at_builtin; have _t := HR; refine wpList_append_run rfl (.tmp 26) (.tmp 28) 23 23 rfl rfl rfl HR.out ?_; clear HR)
          go_roundw
          case rel => exact ⟨_, 1, rfl, by omega, by go_num, HO8, HB8⟩
          case measure => simp [intOf]
      · by_cases hk : k.2.1 = 0
        · have hb : (((l1.toNat : Nat) : Int) != 32) = false := by rw [q, decide_eq_true (h1.2 hk)]; rfl
          have HO2 : Hid (IOwn wq w1.heap.size v (nmj k x 2)) := hide_ (by
            have e : nmj k x 2 = nmj k x 1 := by
              show nmj k x 1 ++ (if kat k 1 ≠ 0 then [oat x 1] else []) = nmj k x 1
              rw [if_neg (by show ¬ k.2.1 ≠ 0; simp [hk]), List.append_nil]
            rw [e]; exact HO.out)
          clear hk q h0 h1 h2
          go_wp2_with fail
          go_roundw
          case rel => exact ⟨v, 2, rfl, by omega, by go_num, HO2, HB⟩
          case measure => simp [intOf]
        · have hb : (((l1.toNat : Nat) : Int) != 32) = true := by rw [q, decide_eq_false (fun e => hk (h1.1 e))]; rfl
          obtain ⟨g, cap, w8, hrun, hO8, hU8, -⟩ := HO.out.push x.b (by omega) HB.out.size
          have hB8 := hU8.below w1.heap.size HB.out.size (fun n hn => (HO.out.lies hn).1)
          have HB8 := hide_ (HB.out.trans hB8)
          have HO8 : Hid (IOwn w8 w1.heap.size (.slice (some ⟨g, 0, none⟩) ((nmj k x 1).length + 1) cap) (nmj k x 2)) := hide_ (by
            have e : nmj k x 2 = nmj k x 1 ++ [x.b] := by
              show nmj k x 1 ++ (if kat k 1 ≠ 0 then [oat x 1] else []) = nmj k x 1 ++ [x.b]
              rw [if_pos (show kat k 1 ≠ 0 from hk)]
              rfl
            rw [e]; exact hO8)
          have HR := hide_ hrun
          generalize (nmj k x 1).length + 1 = ln at *
          clear hk q h0 h1 h2 hrun hO8 hU8 hB8 hlen
          go_wp2_with (at_builtin; have _t := HR; refine wpList_append_run rfl (.tmp 26) (.tmp 28) 23 23 rfl rfl rfl HR.out ?_; clear HR)
          go_roundw
          case rel => exact ⟨_, 2, rfl, by omega, by go_num, HO8, HB8⟩
          case measure => simp [intOf]
      · by_cases hk : k.2.2 = 0
        · have hb : (((l2.toNat : Nat) : Int) != 32) = false := by rw [q, decide_eq_true (h2.2 hk)]; rfl
          have HO2 : Hid (IOwn wq w1.heap.size v (nmj k x 3)) := hide_ (by
            have e : nmj k x 3 = nmj k x 2 := by
              show nmj k x 2 ++ (if kat k 2 ≠ 0 then [oat x 2] else []) = nmj k x 2
              rw [if_neg (by show ¬ k.2.2 ≠ 0; simp [hk]), List.append_nil]
            rw [e]; exact HO.out)
          clear hk q h0 h1 h2
          go_wp2_with fail
          go_roundw
          case rel => exact ⟨v, 3, rfl, by omega, by go_num, HO2, HB⟩
          case measure => simp [intOf]
        · have hb : (((l2.toNat : Nat) : Int) != 32) = true := by rw [q, decide_eq_false (fun e => hk (h2.1 e))]; rfl
          obtain ⟨g, cap, w8, hrun, hO8, hU8, -⟩ := HO.out.push x.c (by omega) HB.out.size
          have hB8 := hU8.below w1.heap.size HB.out.size (fun n hn => (HO.out.lies hn).1)
          have HB8 := hide_ (HB.out.trans hB8)
          have HO8 : Hid (IOwn w8 w1.heap.size (.slice (some ⟨g, 0, none⟩) ((nmj k x 2).length + 1) cap) (nmj k x 3)) := hide_ (by
            have e : nmj k x 3 = nmj k x 2 ++ [x.c] := by
              show nmj k x 2 ++ (if kat k 2 ≠ 0 then [oat x 2] else []) = nmj k x 2 ++ [x.c]
              rw [if_pos (show kat k 2 ≠ 0 from hk)]
              rfl
            rw [e]; exact hO8)
          have HR := hide_ hrun
          generalize (nmj k x 2).length + 1 = ln at *
          clear hk q h0 h1 h2 hrun hO8 hU8 hB8 hlen
          go_wp2_with (at_builtin; have _t := HR; refine wpList_append_run rfl (.tmp 26) (.tmp 28) 23 23 rfl rfl rfl HR.out ?_; clear HR)
          go_roundw
          case rel => exact ⟨_, 3, rfl, by omega, by go_num, HO8, HB8⟩
          case measure => simp [intOf]
    · obtain rfl : j = 3 := by omega
      have HO9 : Hid (IOwn wq w.heap.size v (nmj k x 3)) := hide_ (own_base HO.out (by have := HB1.out.size; exact this))
      go_wp2
      go_ret
      exact ⟨⟨v, rfl, HO9⟩, below_to HB1.out HB.out⟩
end Go.Proofs.YteadmiikenpjeaaDoor
