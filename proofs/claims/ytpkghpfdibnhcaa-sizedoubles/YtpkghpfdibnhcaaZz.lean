/- doubles: the walk. -/
import Derived.Test.YtpkghpfdibnhcaaZy
namespace Go.Proofs.Ytpkghpfdibnhcaa
open Go.RowKit
set_option linter.unusedVariables false

set_option maxRecDepth 100000 in
set_option maxHeartbeats 8000000 in
theorem doublesS_any (n : Nat) (w : World) (hn : n ≤ 63) :
    Calls Try.prog 11 #[.int .i64 (n : Int), .bool true] w fun e w' => ∃ a c, e = .returned (.agg #[.slice a (dbT n true).length c, .slice none 0 0]) ∧ Hid (TRow w' a (dbT n true)) ∧ Hid (Below w.heap.size w w') := by
  obtain ⟨w1, hw1⟩ : ∃ w1, w1 = w.alloc (.cells #[.slice none 0 0, .slice none 0 0] 31) := ⟨_, rfl⟩
  have hB1 : Below w.heap.size w w1 := by rw [hw1]; exact below1 _ _
  have k1 : Blk w1 w.heap.size 31 [.slice none 0 0, .slice none 0 0] := by rw [hw1]; exact Blk.newA w _ _
  obtain ⟨w2, hw2⟩ : ∃ w2, w2 = w1.alloc (.cells #[.int .i64 1, .int .i64 1, .int .i64 0, .slice none 0 0] 43) := ⟨_, rfl⟩
  have hB2 : Below w1.heap.size w1 w2 := by rw [hw2]; exact below1 _ _
  have k2 : Blk w2 w1.heap.size 43 (cellsG tyq [(⟨1, 1, 0, []⟩, .slice none 0 0)]) := by rw [hw2]; exact Blk.newA w1 _ _
  obtain ⟨w3, hw3⟩ : ∃ w3, w3 = w2.alloc (.cells #[.slice (some ⟨w1.heap.size, 0, none⟩) 1 1, .slice none 0 0] 31) := ⟨_, rfl⟩
  have hB3 : Below w2.heap.size w2 w3 := by rw [hw3]; exact below1 _ _
  have k3 : Blk w3 w2.heap.size 31 [.slice (some ⟨w1.heap.size, 0, none⟩) 1 1, .slice none 0 0] := by rw [hw3]; exact Blk.newA w2 _ _
  have hz1 : w1.heap.size = w.heap.size + 1 := by rw [hw1]; simp
  have hz2 : w2.heap.size = w.heap.size + 1 + 1 := by rw [hw2]; simp [hz1]
  have HO3 : Hid (TOwn w3 w.heap.size (.slice (some ⟨w1.heap.size, 0, none⟩) 1 1) [(⟨1, 1, 0, []⟩, .slice none 0 0)]) := hide_ (by
    refine TOwn.later ⟨?_, fun p hp => ?_⟩ hB3
    · exact ownS_of_blk (n := 1) (c := 4) (cap := 1) k2 (by omega) rfl (Nat.le_refl _) (by unfold maxLen; omega)
    · simp at hp
      subst hp
      exact ⟨none, 0, rfl, Nat.le_refl _, fun _ => rfl, .inl rfl, fun x hx => by cases hx⟩)
  have HR3 := hide_ ((k1.later hB2).later hB3)
  have HB3 := hide_ (below_to (below_to hB1 hB2) hB3)
  rw [hz1] at HO3 k3 hw3
  rw [hz2] at k3
  have HK3 := hide_ k3
  clear k1 k2 k3 hB1 hB2 hB3
  go_enter Try.func11, Try.ntmps11
  go_upto_region 2 with fail
  rw [← hw1, ← hw2, ← hw3]
  clear hw1 hw2 hw3 hz1 hz2
  go_wp2_with fail
  go_loopw [6] (fun x6 wr => ∃ (i : Nat) (v : Value) (Q : List (Ty × Value)), i ≤ n ∧ x6 = .int .i64 (i : Int) ∧ Hid (Q.map (·.1) = dbT i true) ∧ Hid (TOwn wr w.heap.size v Q) ∧ Hid (Blk wr (w.heap.size + 1 + 1) 31 [v, .slice none 0 0]) ∧ Hid (Blk wr w.heap.size 31 [.slice none 0 0, .slice none 0 0]) ∧ Hid (Below w.heap.size w wr)) (fun x6 _ => n - (intOf x6).toNat)
  case atStart => exact ⟨0, _, _, Nat.zero_le _, rfl, hide_ rfl, HO3, HK3, HR3, HB3⟩
  case round =>
    obtain ⟨i, v, Q, hi, rfl, HQ, HO, HK, HR, HB⟩ := hrel
    generalize wr = wq at *
    clear HO3 HK3 HR3 HB3 w3 w2 w1
    have i0 := HK.out.cell 0; have i1 := HK.out.cell 1
    simp at i0 i1
    by_cases hlt : i < n
    · have hlt' : (i : Int) < n := by omega
      have hQl : Q.length ≤ 1000 := by
        have h := congrArg List.length HQ.out
        rw [List.length_map, dbT_len] at h
        omega
      obtain ⟨w4, hw4⟩ : ∃ w4, w4 = wq.alloc (.cells #[.string ⟨#[97]⟩, .int .i64 0, .int .i64 (i : Int), .string ⟨#[98]⟩, .int .i64 0, .int .i64 (i : Int)] 45) := ⟨_, rfl⟩
      have hB4 : Below wq.heap.size wq w4 := by rw [hw4]; exact below1 _ _
      have k4 : Blk w4 wq.heap.size 45 (cellsG ptc (db1 true i).ps) := by rw [hw4]; exact Blk.newA wq _ _
      have hPt : PtIn w4 w.heap.size (db1 true i).ps (.slice (some ⟨wq.heap.size, 0, none⟩) 2 2) := ⟨some ⟨wq.heap.size, 0, none⟩, 2, rfl, Nat.le_refl _, (fun h => by cases h), blk_grow ptc_len k4, fun x hx => by injection hx with hx; subst hx; exact .inr ⟨_, k4⟩⟩
      have hz4 : w4.heap.size = wq.heap.size + 1 := by rw [hw4]; simp
      have hBw4 := HB.out.trans (hB4.mono HB.out.size)
      obtain ⟨v', w5, hrun, hO5, hU5, g5, c5, hv5⟩ := (HO.out.later hB4).push (db1 true i) (.slice (some ⟨wq.heap.size, 0, none⟩) 2 2) rfl hPt (by omega) hBw4.size
      subst hv5
      have hK5 := (HK.out.later hB4).upd hU5 (fun e => by obtain ⟨zs, hz⟩ := ownS_type (HO.out.later hB4).1 e; exact absurd (blk_type hz (HK.out.later hB4)) (by decide))
      have hR5 := (HR.out.later hB4).upd hU5 (fun e => by obtain ⟨zs, hz⟩ := ownS_type (HO.out.later hB4).1 e; exact absurd (blk_type hz (HR.out.later hB4)) (by decide))
      have hB5 := hBw4.trans (hU5.below w.heap.size hBw4.size (fun k hk => ((HO.out.later hB4).1.lt k hk).1))
      have HO6 := hide_ (hO5.other hK5 (by omega) (by decide) (by decide) 0 (.slice (some ⟨g5, 0, none⟩) (Q.length + 1) c5))
      have HK6 : Hid (Blk (w5.setCell ⟨w.heap.size + 1 + 1, 0, none⟩ (.slice (some ⟨g5, 0, none⟩) (Q.length + 1) c5)) (w.heap.size + 1 + 1) 31 [(.slice (some ⟨g5, 0, none⟩) (Q.length + 1) c5), .slice none 0 0]) := hide_ (by have h := hK5.set 0 (.slice (some ⟨g5, 0, none⟩) (Q.length + 1) c5); simpa using h)
      have HR6 := hide_ (hR5.other ⟨w.heap.size + 1 + 1, 0, none⟩ (.slice (some ⟨g5, 0, none⟩) (Q.length + 1) c5) (by show w.heap.size ≠ w.heap.size + 1 + 1; omega))
      have HB6 := hide_ (below_set hB5 (w.heap.size + 1 + 1) 0 (.slice (some ⟨g5, 0, none⟩) (Q.length + 1) c5) (by omega))
      have HQ6 : Hid ((Q ++ [(db1 true i, Value.slice (some ⟨wq.heap.size, 0, none⟩) 2 2)]).map (fun p => p.1) = dbT (i + 1) true) := hide_ (by rw [List.map_append, HQ.out, dbT_succ]; rfl)
      have q0 := hK5.cell 0
      have fr := hK5.frozen 0
      simp at q0
      rw [hz4] at hrun
      have HRun : Hid ((Builtin.append_ #[28, 28] 28 #[v, .slice (some ⟨wq.heap.size + 1, 0, none⟩) 1 1]).run Try.prog ((wq.alloc (.cells #[.string ⟨#[97]⟩, .int .i64 0, .int .i64 (i : Int), .string ⟨#[98]⟩, .int .i64 0, .int .i64 (i : Int)] 45)).alloc (.cells #[.int .i64 8, .int .i64 0, .int .i64 0, .slice (some ⟨wq.heap.size, 0, none⟩) 2 2] 43)) = .ok (.slice (some ⟨g5, 0, none⟩) (Q.length + 1) c5) w5) := hide_ (by rw [← hw4]; exact hrun)
      clear hrun hO5 hU5 hK5 hR5 hB5 hBw4 hPt k4 hB4 hw4 hz4 HO HK HR HB HQ
      go_wp2_with (first | (at_builtin; refine wpList_append_run rfl (.tmp 17) (.tmp 24) 28 28 rfl rfl rfl HRun.out ?_; clear HRun))
      go_roundw
      case rel => exact ⟨i + 1, (.slice (some ⟨g5, 0, none⟩) (Q.length + 1) c5), _, by omega, by go_num, HQ6, HO6, HK6, HR6, HB6⟩
      case measure => simp [intOf]; omega
    · obtain rfl : i = n := by omega
      obtain ⟨a, c, hv, hr⟩ := HO.out.row
      rw [HQ.out] at hv hr
      subst hv
      have j0 := HR.out.cell 0; have j1 := HR.out.cell 1
      simp at j0 j1
      have f0 := fun i => HR.out.frozen i
      have HKe := hide_ (wr2 HR.out (.slice a (dbT i true).length c) (.slice none 0 0))
      have HBe := hide_ (below_wr2 HB.out w.heap.size (Nat.le_refl _) (.slice a (dbT i true).length c) (.slice none 0 0))
      have HTe : Hid (TRow ((wq.setCell ⟨w.heap.size, 0, none⟩ (.slice a (dbT i true).length c)).setCell ⟨w.heap.size, 1, none⟩ (.slice none 0 0)) a (dbT i true)) := hide_ (by
        have h1 := HO.out.other HR.out (Nat.le_refl _) (by decide) (by decide) 0 (.slice a (dbT i true).length c)
        have h2 := h1.other (HR.out.set 0 (.slice a (dbT i true).length c)) (Nat.le_refl _) (by decide) (by decide) 1 (.slice none 0 0)
        obtain ⟨a', c', hv', hr'⟩ := h2.row
        rw [HQ.out] at hv' hr'
        injection hv' with e _ _
        subst e
        exact hr')
      clear hr
      go_wp2
      exact retSc rfl rfl HKe.out ⟨a, c, rfl, HTe, HBe⟩
set_option maxRecDepth 100000 in
set_option maxHeartbeats 8000000 in
theorem doublesU_any (n : Nat) (w : World) (hn : n ≤ 63) :
    Calls Try.prog 11 #[.int .i64 (n : Int), .bool false] w fun e w' => ∃ a c, e = .returned (.agg #[.slice a (dbT n false).length c, .slice none 0 0]) ∧ Hid (TRow w' a (dbT n false)) ∧ Hid (Below w.heap.size w w') := by
  obtain ⟨w1, hw1⟩ : ∃ w1, w1 = w.alloc (.cells #[.slice none 0 0, .slice none 0 0] 31) := ⟨_, rfl⟩
  have hB1 : Below w.heap.size w w1 := by rw [hw1]; exact below1 _ _
  have k1 : Blk w1 w.heap.size 31 [.slice none 0 0, .slice none 0 0] := by rw [hw1]; exact Blk.newA w _ _
  obtain ⟨w2, hw2⟩ : ∃ w2, w2 = w1.alloc (.cells #[.int .i64 1, .int .i64 1, .int .i64 0, .slice none 0 0] 43) := ⟨_, rfl⟩
  have hB2 : Below w1.heap.size w1 w2 := by rw [hw2]; exact below1 _ _
  have k2 : Blk w2 w1.heap.size 43 (cellsG tyq [(⟨1, 1, 0, []⟩, .slice none 0 0)]) := by rw [hw2]; exact Blk.newA w1 _ _
  obtain ⟨w3, hw3⟩ : ∃ w3, w3 = w2.alloc (.cells #[.slice (some ⟨w1.heap.size, 0, none⟩) 1 1, .slice none 0 0] 31) := ⟨_, rfl⟩
  have hB3 : Below w2.heap.size w2 w3 := by rw [hw3]; exact below1 _ _
  have k3 : Blk w3 w2.heap.size 31 [.slice (some ⟨w1.heap.size, 0, none⟩) 1 1, .slice none 0 0] := by rw [hw3]; exact Blk.newA w2 _ _
  have hz1 : w1.heap.size = w.heap.size + 1 := by rw [hw1]; simp
  have hz2 : w2.heap.size = w.heap.size + 1 + 1 := by rw [hw2]; simp [hz1]
  have HO3 : Hid (TOwn w3 w.heap.size (.slice (some ⟨w1.heap.size, 0, none⟩) 1 1) [(⟨1, 1, 0, []⟩, .slice none 0 0)]) := hide_ (by
    refine TOwn.later ⟨?_, fun p hp => ?_⟩ hB3
    · exact ownS_of_blk (n := 1) (c := 4) (cap := 1) k2 (by omega) rfl (Nat.le_refl _) (by unfold maxLen; omega)
    · simp at hp
      subst hp
      exact ⟨none, 0, rfl, Nat.le_refl _, fun _ => rfl, .inl rfl, fun x hx => by cases hx⟩)
  have HR3 := hide_ ((k1.later hB2).later hB3)
  have HB3 := hide_ (below_to (below_to hB1 hB2) hB3)
  rw [hz1] at HO3 k3 hw3
  rw [hz2] at k3
  have HK3 := hide_ k3
  clear k1 k2 k3 hB1 hB2 hB3
  go_enter Try.func11, Try.ntmps11
  go_upto_region 2 with fail
  rw [← hw1, ← hw2, ← hw3]
  clear hw1 hw2 hw3 hz1 hz2
  go_wp2_with fail
  go_loopw [6] (fun x6 wr => ∃ (i : Nat) (v : Value) (Q : List (Ty × Value)), i ≤ n ∧ x6 = .int .i64 (i : Int) ∧ Hid (Q.map (·.1) = dbT i false) ∧ Hid (TOwn wr w.heap.size v Q) ∧ Hid (Blk wr (w.heap.size + 1 + 1) 31 [v, .slice none 0 0]) ∧ Hid (Blk wr w.heap.size 31 [.slice none 0 0, .slice none 0 0]) ∧ Hid (Below w.heap.size w wr)) (fun x6 _ => n - (intOf x6).toNat)
  case atStart => exact ⟨0, _, _, Nat.zero_le _, rfl, hide_ rfl, HO3, HK3, HR3, HB3⟩
  case round =>
    obtain ⟨i, v, Q, hi, rfl, HQ, HO, HK, HR, HB⟩ := hrel
    generalize wr = wq at *
    clear HO3 HK3 HR3 HB3 w3 w2 w1
    have i0 := HK.out.cell 0; have i1 := HK.out.cell 1
    simp at i0 i1
    by_cases hlt : i < n
    · have hlt' : (i : Int) < n := by omega
      have hQl : Q.length ≤ 1000 := by
        have h := congrArg List.length HQ.out
        rw [List.length_map, dbT_len] at h
        omega
      obtain ⟨w4, hw4⟩ : ∃ w4, w4 = wq.alloc (.cells #[.string ⟨#[]⟩, .int .i64 0, .int .i64 (i : Int), .string ⟨#[]⟩, .int .i64 1, .int .i64 (i : Int)] 45) := ⟨_, rfl⟩
      have hB4 : Below wq.heap.size wq w4 := by rw [hw4]; exact below1 _ _
      have k4 : Blk w4 wq.heap.size 45 (cellsG ptc (db1 false i).ps) := by rw [hw4]; exact Blk.newA wq _ _
      have hPt : PtIn w4 w.heap.size (db1 false i).ps (.slice (some ⟨wq.heap.size, 0, none⟩) 2 2) := ⟨some ⟨wq.heap.size, 0, none⟩, 2, rfl, Nat.le_refl _, (fun h => by cases h), blk_grow ptc_len k4, fun x hx => by injection hx with hx; subst hx; exact .inr ⟨_, k4⟩⟩
      have hz4 : w4.heap.size = wq.heap.size + 1 := by rw [hw4]; simp
      have hBw4 := HB.out.trans (hB4.mono HB.out.size)
      obtain ⟨v', w5, hrun, hO5, hU5, g5, c5, hv5⟩ := (HO.out.later hB4).push (db1 false i) (.slice (some ⟨wq.heap.size, 0, none⟩) 2 2) rfl hPt (by omega) hBw4.size
      subst hv5
      have hK5 := (HK.out.later hB4).upd hU5 (fun e => by obtain ⟨zs, hz⟩ := ownS_type (HO.out.later hB4).1 e; exact absurd (blk_type hz (HK.out.later hB4)) (by decide))
      have hR5 := (HR.out.later hB4).upd hU5 (fun e => by obtain ⟨zs, hz⟩ := ownS_type (HO.out.later hB4).1 e; exact absurd (blk_type hz (HR.out.later hB4)) (by decide))
      have hB5 := hBw4.trans (hU5.below w.heap.size hBw4.size (fun k hk => ((HO.out.later hB4).1.lt k hk).1))
      have HO6 := hide_ (hO5.other hK5 (by omega) (by decide) (by decide) 0 (.slice (some ⟨g5, 0, none⟩) (Q.length + 1) c5))
      have HK6 : Hid (Blk (w5.setCell ⟨w.heap.size + 1 + 1, 0, none⟩ (.slice (some ⟨g5, 0, none⟩) (Q.length + 1) c5)) (w.heap.size + 1 + 1) 31 [(.slice (some ⟨g5, 0, none⟩) (Q.length + 1) c5), .slice none 0 0]) := hide_ (by have h := hK5.set 0 (.slice (some ⟨g5, 0, none⟩) (Q.length + 1) c5); simpa using h)
      have HR6 := hide_ (hR5.other ⟨w.heap.size + 1 + 1, 0, none⟩ (.slice (some ⟨g5, 0, none⟩) (Q.length + 1) c5) (by show w.heap.size ≠ w.heap.size + 1 + 1; omega))
      have HB6 := hide_ (below_set hB5 (w.heap.size + 1 + 1) 0 (.slice (some ⟨g5, 0, none⟩) (Q.length + 1) c5) (by omega))
      have HQ6 : Hid ((Q ++ [(db1 false i, Value.slice (some ⟨wq.heap.size, 0, none⟩) 2 2)]).map (fun p => p.1) = dbT (i + 1) false) := hide_ (by rw [List.map_append, HQ.out, dbT_succ]; rfl)
      have q0 := hK5.cell 0
      have fr := hK5.frozen 0
      simp at q0
      rw [hz4] at hrun
      have HRun : Hid ((Builtin.append_ #[28, 28] 28 #[v, .slice (some ⟨wq.heap.size + 1, 0, none⟩) 1 1]).run Try.prog ((wq.alloc (.cells #[.string ⟨#[]⟩, .int .i64 0, .int .i64 (i : Int), .string ⟨#[]⟩, .int .i64 1, .int .i64 (i : Int)] 45)).alloc (.cells #[.int .i64 7, .int .i64 0, .int .i64 0, .slice (some ⟨wq.heap.size, 0, none⟩) 2 2] 43)) = .ok (.slice (some ⟨g5, 0, none⟩) (Q.length + 1) c5) w5) := hide_ (by rw [← hw4]; exact hrun)
      clear hrun hO5 hU5 hK5 hR5 hB5 hBw4 hPt k4 hB4 hw4 hz4 HO HK HR HB HQ
      go_wp2_with (first | (at_builtin; refine wpList_append_run rfl (.tmp 28) (.tmp 35) 28 28 rfl rfl rfl HRun.out ?_; clear HRun))
      go_roundw
      case rel => exact ⟨i + 1, (.slice (some ⟨g5, 0, none⟩) (Q.length + 1) c5), _, by omega, by go_num, HQ6, HO6, HK6, HR6, HB6⟩
      case measure => simp [intOf]; omega
    · obtain rfl : i = n := by omega
      obtain ⟨a, c, hv, hr⟩ := HO.out.row
      rw [HQ.out] at hv hr
      subst hv
      have j0 := HR.out.cell 0; have j1 := HR.out.cell 1
      simp at j0 j1
      have f0 := fun i => HR.out.frozen i
      have HKe := hide_ (wr2 HR.out (.slice a (dbT i false).length c) (.slice none 0 0))
      have HBe := hide_ (below_wr2 HB.out w.heap.size (Nat.le_refl _) (.slice a (dbT i false).length c) (.slice none 0 0))
      have HTe : Hid (TRow ((wq.setCell ⟨w.heap.size, 0, none⟩ (.slice a (dbT i false).length c)).setCell ⟨w.heap.size, 1, none⟩ (.slice none 0 0)) a (dbT i false)) := hide_ (by
        have h1 := HO.out.other HR.out (Nat.le_refl _) (by decide) (by decide) 0 (.slice a (dbT i false).length c)
        have h2 := h1.other (HR.out.set 0 (.slice a (dbT i false).length c)) (Nat.le_refl _) (by decide) (by decide) 1 (.slice none 0 0)
        obtain ⟨a', c', hv', hr'⟩ := h2.row
        rw [HQ.out] at hv' hr'
        injection hv' with e _ _
        subst e
        exact hr')
      clear hr
      go_wp2
      exact retSc rfl rfl HKe.out ⟨a, c, rfl, HTe, HBe⟩
end Go.Proofs.Ytpkghpfdibnhcaa
