import Derived.Test.YtiojpohmgjdgfaaGreatPart28
import Derived.Test.YtiojpohmgjdgfaaGreatPart01

/- FlowClosed: the walk. -/
namespace Go.Proofs.YtiojpohmgjdgfaaGreat
open Go.RowKit
set_option linter.unusedVariables false
set_option linter.unusedSimpArgs false

/-- What Reach and Blocks have handed out. -/
def RbP (w : World) (en : Bool) (C : List In) (E : List Int) (K : Int × Int) (n : Nat) (vr vb : Value) : Prop :=
  (K.1 ≠ 0 ∧ vr = .slice none 0 0 ∧ vb = .slice none 0 0) ∨ (K.1 = 0 ∧ Chk en C E ∧ ∃ (R G : List Bool) (gr : Nat), ReOk C E R ∧ BgOk C E R G ∧ vr = .slice (some ⟨gr, 0, none⟩) n n ∧ Blk w gr 4 (R.map Value.bool) ∧ ∃ ab cb, vb = .slice ab (blF G n).length cb ∧ Row .i64 w ab (blF G n))
set_option maxRecDepth 100000 in
set_option maxHeartbeats 16000000 in
theorem fclosed_any (en : Bool) (a0 b0 : Option Addr) (c0 d0 : Nat) (P0 : List In) (E0 : List Int) (w : World) (h : Hid (PgI w a0 b0 c0 d0 P0 E0)) :
    Calls Tryz.prog 3 #[.agg #[.bool en, .slice a0 P0.length c0, .slice b0 E0.length d0]] w fun e w' => e = .returned (.bool true) ∧ Below w.heap.size w w' := by
  obtain ⟨C, hC⟩ : ∃ C, P0.take 300 = C := ⟨_, rfl⟩
  obtain ⟨E, hE⟩ : ∃ E, E0.take 60 = E := ⟨_, rfl⟩
  obtain ⟨n, hn⟩ : ∃ n, C.length = n := ⟨_, rfl⟩
  obtain ⟨m, hm⟩ : ∃ m, E.length = m := ⟨_, rfl⟩
  have hn300 : n ≤ 300 := by rw [← hn, ← hC, List.length_take]; omega
  have hm60 : m ≤ 60 := by rw [← hm, ← hE, List.length_take]; omega
  have hPg : PgI w a0 b0 c0 d0 C E := by rw [← hC, ← hE]; exact h.out.take 300 60
  have HPg := hide_ hPg
  obtain ⟨w1, hw1⟩ : ∃ wx, w.alloc (.cells #[.bool en, .slice a0 P0.length c0, .slice b0 E0.length d0] 25) = wx := ⟨_, rfl⟩
  have HB1 : Hid (Below w.heap.size w w1) := hide_ (by rw [← hw1]; exact below1 _ _)
  have HP1 : Hid (Blk w1 w.heap.size 25 [.bool en, .slice a0 P0.length c0, .slice b0 E0.length d0]) := hide_ (by rw [← hw1]; exact Blk.newA w _ _)
  have HAw := hide_ (awake18_any w1)
  have HCu : Hid (∀ w2, Below w.heap.size w w2 → Calls Tryz.prog 8 #[.agg #[.bool en, .slice a0 P0.length c0, .slice b0 E0.length d0]] w2 fun e w' => e = .returned (.agg #[.bool en, .slice a0 n c0, .slice b0 m d0]) ∧ Hid (Below w2.heap.size w2 w')) := hide_ (fun w2 hB => by
    have h1 := cut18_any en a0 b0 c0 d0 P0 E0 w2 (h.out.later hB)
    rw [hC, hE, hn, hm] at h1
    exact h1)
  have HRe : Hid (∀ w2, Below w.heap.size w w2 → Calls Tryz.prog 9 #[.agg #[.bool en, .slice a0 n c0, .slice b0 m d0]] w2 fun e w' => RcTo w2 en C E e w') := hide_ (fun w2 hB => by
    have h1 := reach_any en a0 b0 c0 d0 C E w2 (hide_ (hPg.later hB))
    rw [hn, hm] at h1
    exact h1)
  have HBl : Hid (∀ w2, Below w.heap.size w w2 → Calls Tryz.prog 10 #[.agg #[.bool en, .slice a0 n c0, .slice b0 m d0]] w2 fun e w' => BsTo w2 en C E e w') := hide_ (fun w2 hB => by
    have h1 := blocks_any en a0 b0 c0 d0 C E w2 (hide_ (hPg.later hB))
    rw [hn, hm] at h1
    exact h1)
  obtain ⟨K, hK⟩ : ∃ K, vfP en C E = K := ⟨_, rfl⟩
  have HVe : Hid (∀ w2, Below w.heap.size w w2 → Calls Tryz.prog 11 #[.agg #[.bool en, .slice a0 n c0, .slice b0 m d0]] w2 fun e w' => e = .returned (.agg #[.int .i64 K.1, .int .i64 K.2]) ∧ Hid (Below w2.heap.size w2 w')) := hide_ (fun w2 hB => by
    have h1 := (hPg.later hB).verify en
    rw [hn, hm, hK] at h1
    exact h1)
  have Hn := hide_ hn
  have Hm := hide_ hm
  have HK := hide_ hK
  clear hC hE hn hm hPg hK h
  go_enter Tryz.func3, Tryz.ntmps3
  go_upto_region 1 with fail
  try rw [hw1]
  clear hw1
  go_wp2_with fail
  refine HAw.out.mono ?_
  rintro e w2 ⟨rfl, hB2⟩
  have HB2 := hide_ (below_to HB1.out hB2)
  have HCu2 := hide_ (HCu.out w2 HB2.out)
  have p0 := (HP1.out.later hB2).cell 0; have p1 := (HP1.out.later hB2).cell 1; have p2 := (HP1.out.later hB2).cell 2
  simp at p0 p1 p2
  clear hB2 HAw HB1 HP1 HCu
  go_wp2_with fail
  refine HCu2.out.mono ?_
  rintro e w3 ⟨rfl, HB3⟩
  obtain ⟨w4, hw4⟩ : ∃ wx, w3.alloc (.cells #[.bool en, .slice a0 n c0, .slice b0 m d0] 25) = wx := ⟨_, rfl⟩
  have hB4 : Below w3.heap.size w3 w4 := by rw [← hw4]; exact below1 _ _
  have HP4 : Hid (Blk w4 w3.heap.size 25 [.bool en, .slice a0 n c0, .slice b0 m d0]) := hide_ (by rw [← hw4]; exact Blk.newA _ _ _)
  have HB4 := hide_ (below_to (below_to HB2.out HB3.out) hB4)
  have HRe4 := hide_ (HRe.out w4 HB4.out)
  clear p0 p1 p2 HCu2 hB4 HB2 HB3 HRe
  go_upto_region 4 with fail
  try rw [hw4]
  clear hw4
  obtain ⟨b3, hb3⟩ : ∃ b3, w3.heap.size = b3 := ⟨_, rfl⟩
  rw [hb3] at HP4
  try rw [hb3]
  clear hb3
  have p0 := HP4.out.cell 0; have p1 := HP4.out.cell 1; have p2 := HP4.out.cell 2
  simp at p0 p1 p2
  go_wp2_with fail
  refine HRe4.out.mono ?_
  rintro e w5 hT
  have HQ : Hid (Below w4.heap.size w4 w5 ∧ ∃ ar nr cr, e = .returned (.tuple #[.slice ar nr cr, .agg #[.int .i64 K.1, .int .i64 K.2]]) ∧ ((K.1 ≠ 0 ∧ nr = 0) ∨ (K.1 = 0 ∧ Chk en C E ∧ nr = n ∧ ∃ (R : List Bool) (gr : Nat), ReOk C E R ∧ ar = some ⟨gr, 0, none⟩ ∧ Blk w5 gr 4 (R.map Value.bool) ∧ w4.heap.size ≤ gr))) := hide_ (by
    obtain ⟨hB, ⟨h1, rfl⟩ | ⟨h1, h2, R, gr, hR, rfl, hk, hg⟩⟩ := hT
    · rw [HK.out] at h1
      exact ⟨hB, none, 0, 0, by rw [HK.out], .inl ⟨h1, rfl⟩⟩
    · rw [HK.out] at h1
      rw [Hn.out]
      exact ⟨hB, _, n, n, by rw [h1], .inr ⟨by rw [h1], h2, rfl, R, gr, hR, rfl, hk, hg⟩⟩)
  clear hT HRe4
  obtain ⟨hB5, ar, nr, cr, rfl, hQ5⟩ := HQ.out
  have HQ5 := hide_ hQ5
  clear HQ hQ5
  go_upto_region 5 with fail
  obtain ⟨w6, hw6⟩ : ∃ wx, w5.alloc (.cells #[.int .i64 K.1, .int .i64 K.2] 31) = wx := ⟨_, rfl⟩
  have hB6 : Below w5.heap.size w5 w6 := by rw [← hw6]; exact below1 _ _
  have HF6 : Hid (Blk w6 w5.heap.size 31 [.int .i64 K.1, .int .i64 K.2]) := hide_ (by rw [← hw6]; exact Blk.newA _ _ _)
  have hB46 := below_to hB5 hB6
  have HP6 := hide_ (HP4.out.later hB46)
  have HB6 := hide_ (below_to HB4.out hB46)
  have HB56 := hide_ hB6
  try rw [hw6]
  clear hw6 hB6 hB46 hB5 HP4 HB4 p0 p1 p2
  obtain ⟨f5, hf5⟩ : ∃ f5, w5.heap.size = f5 := ⟨_, rfl⟩
  rw [hf5] at HF6
  try rw [hf5]
  clear hf5
  have HBl6 := hide_ (HBl.out w6 HB6.out)
  have p0 := HP6.out.cell 0; have p1 := HP6.out.cell 1; have p2 := HP6.out.cell 2
  simp at p0 p1 p2
  clear HBl
  go_wp2_with fail
  refine HBl6.out.mono ?_
  rintro e w7 hT
  have HQ : Hid (Below w6.heap.size w6 w7 ∧ ∃ ab nb cb, e = .returned (.tuple #[.slice ab nb cb, .agg #[.int .i64 K.1, .int .i64 K.2]]) ∧ ((K.1 ≠ 0 ∧ nb = 0) ∨ (K.1 = 0 ∧ ∃ (R G : List Bool), ReOk C E R ∧ BgOk C E R G ∧ nb = (blF G n).length ∧ Row .i64 w7 ab (blF G n)))) := hide_ (by
    obtain ⟨hB, ⟨h1, rfl⟩ | ⟨h1, h2, R, G, v, hR, hG, rfl, hO⟩⟩ := hT
    · rw [HK.out] at h1
      exact ⟨hB, none, 0, 0, by rw [HK.out], .inl ⟨h1, rfl⟩⟩
    · rw [HK.out] at h1
      rw [Hn.out] at hO
      obtain ⟨ab, cb, rfl, hr, -, -⟩ := hO.row
      exact ⟨hB, ab, _, cb, by rw [h1], .inr ⟨by rw [h1], R, G, hR, hG, rfl, hr⟩⟩)
  clear hT HBl6
  obtain ⟨hB7, ab, nb, cb, rfl, hQ7⟩ := HQ.out
  have HQ7 := hide_ hQ7
  clear HQ hQ7
  go_upto_region 6 with fail
  obtain ⟨w8, hw8⟩ : ∃ wx, w7.alloc (.cells #[.int .i64 K.1, .int .i64 K.2] 31) = wx := ⟨_, rfl⟩
  have hB8 : Below w7.heap.size w7 w8 := by rw [← hw8]; exact below1 _ _
  have HG8 : Hid (Blk w8 w7.heap.size 31 [.int .i64 K.1, .int .i64 K.2]) := hide_ (by rw [← hw8]; exact Blk.newA _ _ _)
  have hB68 := below_to hB7 hB8
  have HP8 := hide_ (HP6.out.later hB68)
  have HF8 := hide_ (HF6.out.later hB68)
  have HB8 := hide_ (below_to HB6.out hB68)
  have HB58 := hide_ (below_to HB56.out hB68)
  have HB78 := hide_ hB8
  try rw [hw8]
  clear hw8 hB8 hB68 hB7 HP6 HF6 HB6 HB56 p0 p1 p2
  obtain ⟨f7, hf7⟩ : ∃ f7, w7.heap.size = f7 := ⟨_, rfl⟩
  rw [hf7] at HG8
  try rw [hf7]
  clear hf7
  have HV8 := hide_ (HVe.out w8.drew (below_to HB8.out ((Below.refl w8.heap.size w8).drew)))
  have HS8 : Hid (∀ w', Below w8.heap.size w8 w' → w'.cell? ⟨b3, 0, none⟩ = some (.bool en) ∧ w'.cell? ⟨b3, 1, none⟩ = some (.slice a0 n c0) ∧ w'.cell? ⟨b3, 2, none⟩ = some (.slice b0 m d0) ∧ w'.cell? ⟨f5, 0, none⟩ = some (.int .i64 K.1) ∧ w'.cell? ⟨f5, 1, none⟩ = some (.int .i64 K.2) ∧ w'.cell? ⟨f7, 0, none⟩ = some (.int .i64 K.1) ∧ w'.cell? ⟨f7, 1, none⟩ = some (.int .i64 K.2)) := hide_ (fun w' hB => by
    have h1 := (HP8.out.later hB).cell 0; have h2 := (HP8.out.later hB).cell 1; have h3 := (HP8.out.later hB).cell 2
    have h4 := (HF8.out.later hB).cell 0; have h5 := (HF8.out.later hB).cell 1
    have h6 := (HG8.out.later hB).cell 0; have h7 := (HG8.out.later hB).cell 1
    simp at h1 h2 h3 h4 h5 h6 h7
    exact ⟨h1, h2, h3, h4, h5, h6, h7⟩)
  clear HVe
  refine wp_region_last 8 (fun w' => w'.cell? ⟨b3, 0, none⟩ = some (.bool en) ∧ w'.cell? ⟨b3, 1, none⟩ = some (.slice a0 n c0) ∧ w'.cell? ⟨b3, 2, none⟩ = some (.slice b0 m d0) ∧ w'.cell? ⟨f5, 0, none⟩ = some (.int .i64 K.1) ∧ w'.cell? ⟨f5, 1, none⟩ = some (.int .i64 K.2) ∧ w'.cell? ⟨f7, 0, none⟩ = some (.int .i64 K.1) ∧ w'.cell? ⟨f7, 1, none⟩ = some (.int .i64 K.2)) (by kernel_rfl) (HS8.out _ ((Below.refl w8.heap.size w8).drew)) (fun hHeld => ?_)
  refine wpAnyF_take [8, 3, 2] (by kernel_rfl) (i := 0) (v := ?va1) rfl (by kernel_rfl) (by kernel_rfl) (by kernel_rfl) (fun _ _ _ h => h) (Or.inl ⟨by kernel_rfl, ?hya1⟩) hHeld ?resta1
  case hya1 => intro w' hSw; (try dsimp only at hSw); go_simp; try with_reducible rfl
  simp only [Act.put]
  try dsimp only
  refine wpAnyF_take [8, 3, 2] (by kernel_rfl) (i := 1) (v := ?va2) rfl (by kernel_rfl) (by kernel_rfl) (by kernel_rfl) (fun _ _ _ h => h) (Or.inl ⟨by kernel_rfl, ?hya2⟩) hHeld ?resta2
  case hya2 => intro w' hSw; (try dsimp only at hSw); go_simp; try with_reducible rfl
  simp only [Act.put]
  try dsimp only
  refine wpAnyF_take [8, 3] (by kernel_rfl) (i := 2) (v := ?va3) rfl (by kernel_rfl) (by kernel_rfl) (by kernel_rfl) (fun _ _ _ h => h) (Or.inl ⟨by kernel_rfl, ?hya3⟩) hHeld ?resta3
  case hya3 => intro w' hSw; (try dsimp only at hSw); go_simp; try with_reducible rfl
  simp only [Act.put]
  try dsimp only
  refine wpAnyF_take [8] (by kernel_rfl) (i := 3) (v := ?va4) rfl (by kernel_rfl) (by kernel_rfl) (by kernel_rfl) (fun _ _ _ h => h) (Or.inl ⟨by kernel_rfl, ?hya4⟩) hHeld ?resta4
  case hya4 => intro w' hSw; (try dsimp only at hSw); go_simp; try with_reducible rfl
  simp only [Act.put]
  try dsimp only
  refine wpAnyF_take [8, 7, 5] (by kernel_rfl) (i := 4) (v := ?va5) rfl (by kernel_rfl) (by kernel_rfl) (by kernel_rfl) (fun _ _ _ h => h) (Or.inl ⟨by kernel_rfl, ?hya5⟩) hHeld ?resta5
  case hya5 => intro w' hSw; (try dsimp only at hSw); go_simp; try with_reducible rfl
  simp only [Act.put]
  try dsimp only
  refine wpAnyF_take [8, 7] (by kernel_rfl) (i := 6) (v := ?va6) rfl (by kernel_rfl) (by kernel_rfl) (by kernel_rfl) (fun _ _ _ h => h) (Or.inl ⟨by kernel_rfl, ?hya6⟩) hHeld ?resta6
  case hya6 => intro w' hSw; (try dsimp only at hSw); go_simp; try with_reducible rfl
  simp only [Act.put]
  try dsimp only
  refine wpAnyF_ready (rs := [5]) (by kernel_rfl) (by simp) ?_
  refine AllReadyF.cons rfl (fun K hK => ?_) AllReadyF.nil
  go_simp
  refine HV8.out.mono ?_
  rintro e w9 ⟨rfl, HB9⟩
  dsimp only
  refine hK.out _ _ (HS8.out _ (below_to ((Below.refl w8.heap.size w8).drew) HB9.out)) (fun hHeld => ?_)
  clear hK K
  refine wpAnyF_take [8] (by kernel_rfl) (i := 7) (v := ?va7) rfl (by kernel_rfl) (by kernel_rfl) (by kernel_rfl) (fun _ _ _ h => h) (Or.inl ⟨by kernel_rfl, ?hya7⟩) hHeld ?resta7
  case hya7 => intro w' hSw; (try dsimp only at hSw); go_simp; try with_reducible rfl
  simp only [Act.put]
  try dsimp only
  refine wpAnyF_ready (rs := [8]) (by kernel_rfl) (by simp) ?_
  refine AllReadyF.last rfl (fun K hK => ?_)
  go_simp
  refine hK.out _ _ ?_
  clear hK K
  refine wpAnyF_done (by kernel_rfl) ?_ _
  have hB9 := below_to ((Below.refl w8.heap.size w8).drew) HB9.out
  have HP9 := hide_ (HP8.out.later hB9)
  have HF9 := hide_ (HF8.out.later hB9)
  have HBw9 := hide_ (below_to HB8.out hB9)
  have HB59 := hide_ (below_to HB58.out hB9)
  have HB79 := hide_ (below_to HB78.out hB9)
  have x0 := HF9.out.cell 0
  have q1 := HP9.out.cell 1
  simp at x0 q1
  clear hB9 HS8 HV8 HP8 HF8 HG8 HB8 HB58 HB78 HB9
  by_cases hz : K.1 = 0
  · rw [hz] at x0 ⊢
    have HQa : Hid (Chk en C E ∧ nr = n ∧ ∃ (R G : List Bool) (gr : Nat), ReOk C E R ∧ BgOk C E R G ∧ ar = some ⟨gr, 0, none⟩ ∧ Blk w9 gr 4 (R.map Value.bool) ∧ nb = (blF G n).length ∧ Row .i64 w9 ab (blF G n)) := hide_ (by
      rcases HQ5.out with ⟨h1, -⟩ | ⟨-, h1, h2, R, gr, h3, h4, h5, -⟩
      · exact absurd hz h1
      · rcases HQ7.out with ⟨h6, -⟩ | ⟨-, R', G, h6, h7, h8, h9⟩
        · exact absurd hz h6
        · have e := h3.one h6
          subst e
          exact ⟨h1, h2, R, G, gr, h3, h7, h4, h5.later HB59.out, h8, h9.later HB79.out⟩)
    obtain ⟨hCk, rfl, R, G, gr, hR, hG, rfl, hKr, rfl, hRb⟩ := HQa.out
    have HCk := hide_ hCk
    have HR := hide_ hR
    have HG := hide_ hG
    have HKr := hide_ hKr
    have HRb := hide_ hRb
    obtain ⟨nb, hnb⟩ : ∃ nb, (blF G nr).length = nb := ⟨_, rfl⟩
    have Hnb := hide_ hnb
    rw [hnb]
    obtain ⟨gw, hgw⟩ : ∃ gw, w9.heap.size = gw := ⟨_, rfl⟩
    obtain ⟨w10, hmk10, hO10, hB10⟩ : ∃ w1, (Instr.makeSlice 23 (.int .i64 (nr : Int)) (.int .i64 (nr : Int))).run Tryz.prog w9 = .ok (.slice (some ⟨w9.heap.size, 0, none⟩) nr nr) w1 ∧ IOwn w1 w9.heap.size (.slice (some ⟨w9.heap.size, 0, none⟩) nr nr) (List.replicate nr 0) ∧ Below w9.heap.size w9 w1 := ⟨_, makeZ nr (by omega) w9, ownZ w9 nr (by omega), below1 _ _⟩
    obtain ⟨ga, hga⟩ : ∃ ga, w10.heap.size = ga := ⟨_, rfl⟩
    obtain ⟨w11, hmk11, hK11, hB11⟩ : ∃ w2, (Instr.makeSlice 28 (.int .i64 (nr : Int)) (.int .i64 (nr : Int))).run Tryz.prog w10 = .ok (.slice (some ⟨w10.heap.size, 0, none⟩) nr nr) w2 ∧ Blk w2 w10.heap.size 4 ((List.replicate nr false).map Value.bool) ∧ Below w10.heap.size w10 w2 := ⟨_, makeBo nr (by omega) w10, newBo w10 nr, below1 _ _⟩
    obtain ⟨gt, hgt⟩ : ∃ gt, w11.heap.size = gt := ⟨_, rfl⟩
    obtain ⟨w12, hmk12, hK12, hB12⟩ : ∃ w2, (Instr.makeSlice 28 (.int .i64 (nr : Int)) (.int .i64 (nr : Int))).run Tryz.prog w11 = .ok (.slice (some ⟨w11.heap.size, 0, none⟩) nr nr) w2 ∧ Blk w2 w11.heap.size 4 ((List.replicate nr false).map Value.bool) ∧ Below w11.heap.size w11 w2 := ⟨_, makeBo nr (by omega) w11, newBo w11 nr, below1 _ _⟩
    rw [hgw] at hmk10
    rw [hga] at hmk11 hK11
    rw [hgt] at hmk12 hK12
    have hB1012 := below_to hB11 hB12
    have HO12 : Hid (IOwn w12 gw (.slice (some ⟨gw, 0, none⟩) nr nr) (List.replicate nr 0)) := hide_ (by rw [hgw] at hO10; exact hO10.later hB1012)
    have HA12 := hide_ (hK11.later hB12)
    have HT12 := hide_ hK12
    have HBx : Hid (Below gw w9 w12) := hide_ (by rw [← hgw]; exact below_to hB10 hB1012)
    have Hgs : Hid (gw < ga ∧ ga < gt) := hide_ (by
      have h1 := (hO10.lies (k := w9.heap.size) rfl).2
      have h2 := hK11.lt
      omega)
    have q10 := (HP9.out.later hB10).cell 1
    have q11 := (HP9.out.later (below_to hB10 hB11)).cell 1
    simp at q10 q11
    have Hgw := hide_ hgw
    have HK0 := hide_ hz
    have HRn : Hid (R.length = nr) := hide_ (by rw [hR.len]; exact Hn.out)
    clear hnb hCk hR hG hKr hRb hga hgt hO10 hK11 hK12 hB10 hB11 hB12 hB1012 HQa HQ5 HQ7 HB59 HB79 hgw hz
    have HPx : Hid (∀ w', Below gw w9 w' → Blk w' b3 25 [.bool en, .slice a0 nr c0, .slice b0 m d0]) := hide_ (fun w' hB => HP9.out.later (by rw [Hgw.out]; exact hB))
    have HEx : Hid (∀ w', Below gw w9 w' → Row .i64 w' b0 E) := hide_ (fun w' hB => (HPg.out.later HBw9.out).he.later (by rw [Hgw.out]; exact hB))
    have HKx : Hid (∀ w', Below gw w9 w' → Blk w' gr 4 (R.map Value.bool)) := hide_ (fun w' hB => HKr.out.later (by rw [Hgw.out]; exact hB))
    have HBx2 : Hid (∀ w', Below gw w9 w' → Below w.heap.size w w') := hide_ (fun w' hB => below_to HBw9.out (by rw [Hgw.out]; exact hB))
    have HGI0 : Hid (GI nr (PE E 0) (List.replicate nr false)) := hide_ ⟨by simp, fun k hk => by rw [qAt_new]; exact ⟨fun h => (by cases h), fun ⟨i, hi, _⟩ => (by omega)⟩⟩
    go_wp2_with fail
    clear q10 q11 hmk10 hmk11 hmk12 x0 q1
    go_loopw [11] (fun x11 wr => ∃ (j : Nat) (T : List Bool), j ≤ m ∧ x11 = .int .i64 (j : Int) ∧ Hid (GI nr (PE E j) T) ∧ Hid (IOwn wr gw (.slice (some ⟨gw, 0, none⟩) nr nr) (List.replicate nr 0)) ∧ Hid (Blk wr ga 4 ((List.replicate nr false).map Value.bool)) ∧ Hid (Blk wr gt 4 (T.map Value.bool)) ∧ Hid (Below gw w9 wr)) (fun x11 _ => m - (intOf x11).toNat)
    case atStart => exact ⟨0, _, by omega, rfl, HGI0, HO12, HA12, HT12, HBx⟩
    case round =>
      clear HGI0 HO12 HA12 HT12 HBx
      obtain ⟨j, T, hj, rfl, HGj, HOj, HAj, HTj, HBj⟩ := hrel
      generalize wr = wq at *
      have q2 := (HPx.out wq HBj.out).cell 2
      simp at q2
      by_cases hlt : j < m
      · have hlt' : (j : Int) < (m : Int) := by omega
        have hjE : j < E.length := by rw [Hm.out]; exact hlt
        have hent := HCk.out.ent j hjE
        obtain ⟨y, hy⟩ := Int.eq_ofNat_of_zero_le hent.1
        have hyn : y < nr := by rw [← Hn.out]; omega
        have hyI : (y : Int) < (nr : Int) := by omega
        obtain ⟨be, oe, hbe, hbL, hce⟩ := (HEx.out wq HBj.out).open (by omega)
        subst hbe
        have cy := hce j hjE
        rw [hy] at cy
        have zc := bAt HTj.out (k := y) (by rw [HGj.out.len]; exact hyn)
        have zf := HTj.out.frozen y
        obtain ⟨w13, hw13⟩ : ∃ wx, wq.setCell ⟨gt, y, none⟩ (.bool true) = wx := ⟨_, rfl⟩
        have hU13 : Upd (fun q => q = gt) wq w13 := by rw [← hw13]; exact (Upd.refl (fun q => q = gt) wq).set ⟨gt, y, none⟩ _ (.inl rfl)
        have HT13 : Hid (Blk w13 gt 4 ((T.set y true).map Value.bool)) := hide_ (by rw [← hw13]; exact bset HTj.out)
        have HO13 := hide_ (HOj.out.upd hU13 (fun q e e2 => by rw [e2] at e; exact HOj.out.neB HTj.out (by decide) e))
        have HA13 := hide_ (HAj.out.upd hU13 (fun e => by have := Hgs.out; omega))
        have hB13 : Below gw w9 w13 := HBj.out.trans (hU13.below gw (by have := HAj.out.lt; have := Hgs.out; omega) (fun q e => by have := Hgs.out; omega))
        have HB13 := hide_ hB13
        have HG13 : Hid (GI nr (PE E (j + 1)) (T.set y true)) := hide_ ((HGj.out.set hyn).congr (fun k _ => pe_step (by unfold hAt; exact hy)))
        have r2 := (HPx.out w13 hB13).cell 2
        simp at r2
        obtain ⟨be', oe', ebe, -, hce'⟩ := (HEx.out w13 hB13).open (by omega)
        injection ebe with ebe
        have cy' : w13.cell? ⟨be, oe + j, none⟩ = some (.int .i64 (y : Int)) := by
          have h1 := hce' j hjE
          rw [hy] at h1
          injection ebe with e1 e2
          rw [e1, e2]
          exact h1
        have cr := bAt (HKx.out w13 hB13) (k := y) (by rw [HRn.out]; exact hyn)
        have hry : qAt R y = true := (HR.out.is y (by rw [Hn.out]; exact hyn)).2 (Rch.ent (by rw [← hy]; exact hAt_mem (l := E) hjE))
        rw [hry] at cr
        clear hent hy hce hce' ebe hU13 hB13 hry HGj HOj HAj HTj HBj hyn hjE hbL
        go_upto_region 19 with fail
        try rw [hw13]
        clear hw13 q2 cy zc zf
        go_wp2_with fail
        go_roundw
        case rel => exact ⟨j + 1, T.set y true, by omega, by go_num, HG13, HO13, HA13, HT13, HB13⟩
        case measure => simp [intOf]; omega
      · have ej : j = m := by omega
        subst ej
        have HTg : Hid (∀ (J : Nat) (w' : World), J < nr → Below gw w9 w' → Calls Tryz.prog 12 #[.agg #[.bool en, .slice a0 nr c0, .slice b0 j d0], .int .i64 (J : Int)] w' fun e w'' => ∃ a c, e = .returned (.tuple #[.slice a (sucP C J).length c, .int .i64 0]) ∧ Hid (Row .i64 w'' a (sucP C J)) ∧ Hid (∀ x, a = some x → 0 < (sucP C J).length → w'.heap.size ≤ x.block) ∧ Hid (Below w'.heap.size w' w'')) := hide_ (fun J w' hJ hB => by
          have h1 := targets_any en a0 b0 c0 d0 C E (J : Int) w' (hide_ (HPg.out.later (HBx2.out w' hB)))
          rw [Hn.out, Hm.out] at h1
          refine h1.mono ?_
          rintro e w'' ⟨hB2, ⟨h2, -⟩ | ⟨-, h2, -⟩ | ⟨-, -, v, rfl, hO⟩⟩
          · rw [HK.out] at h2; exact absurd HK0.out h2
          · rw [Hn.out] at h2; exact absurd ⟨by omega, by omega⟩ h2
          · rw [Int.toNat_natCast] at hO
            obtain ⟨a, c, rfl, hr, -, -⟩ := hO.row
            refine ⟨a, c, rfl, hide_ hr, hide_ (fun x e h0 => ?_), hide_ hB2⟩
            obtain ⟨g', c', e1, -, h3, -⟩ := hO.open h0
            injection e1 with e1
            rw [e] at e1
            injection e1 with e1
            rw [e1]
            exact h3)
        have HW0 : Hid ((List.replicate nr (0 : Int)).length = nr ∧ ∀ i, i < nr → hAt (List.replicate nr (0 : Int)) i = (cnW C R i 0 : Int)) := hide_ ⟨by simp, fun i hi => by simp [hAt, List.getD, hi, cnW]⟩
        have HA0 : Hid (GI nr (ahP C R 0) (List.replicate nr false)) := hide_ ⟨by simp, fun k hk => by rw [qAt_new]; exact ⟨fun h => (by cases h), fun ⟨i, hi, _⟩ => (by omega)⟩⟩
        clear hlt
        go_wp2_with fail
        go_loopw [12] (fun x12 wr => ∃ (J : Nat) (Wy : List Int) (A : List Bool), J ≤ nr ∧ x12 = .int .i64 (J : Int) ∧ Hid (Wy.length = nr ∧ ∀ i, i < nr → hAt Wy i = (cnW C R i J : Int)) ∧ Hid (GI nr (ahP C R J) A) ∧ Hid (IOwn wr gw (.slice (some ⟨gw, 0, none⟩) nr nr) Wy) ∧ Hid (Blk wr ga 4 (A.map Value.bool)) ∧ Hid (Blk wr gt 4 (T.map Value.bool)) ∧ Hid (Below gw w9 wr)) (fun x12 _ => nr - (intOf x12).toNat)
        case atStart => exact ⟨0, _, _, by omega, rfl, HW0, HA0, HOj, HAj, HTj, HBj⟩
        case round =>
          clear HW0 HA0 HOj HAj HTj HBj q2
          obtain ⟨J, Wy, A, hJ, rfl, HWJ, HAJ, HOJ, HKA, HKT, HBJ⟩ := hrel
          generalize wr = wp at *
          have r0 := (HPx.out wp HBJ.out).cell 0; have r1 := (HPx.out wp HBJ.out).cell 1; have r2 := (HPx.out wp HBJ.out).cell 2
          simp at r0 r1 r2
          by_cases hlt : J < nr
          · have hlt' : (J : Int) < (nr : Int) := by omega
            have HT2 := hide_ (HTg.out J wp hlt HBJ.out)
            go_wp2_with fail
            refine HT2.out.mono ?_
            rintro e w14 ⟨al, cl, rfl, HRl, HRa, HB14⟩
            have HO14 := hide_ (HOJ.out.later HB14.out)
            have HA14 := hide_ (HKA.out.later HB14.out)
            have HT14 := hide_ (HKT.out.later HB14.out)
            have HBx14 : Hid (Below gw w9 w14) := hide_ (HBJ.out.trans (HB14.out.mono (by have := (HOJ.out.lies (k := gw) rfl).2; omega)))
            have HRa2 : Hid (∀ x, al = some x → 0 < (sucP C J).length → gw < x.block ∧ ga < x.block) := hide_ (fun x e h0 => by
              have h1 := HRa.out x e h0
              have h2 := (HOJ.out.lies (k := gw) rfl).2
              have h3 := HKA.out.lt
              omega)
            clear r0 r1 r2 HT2 HOJ HKA HKT HBJ HB14 HRa
            go_wp2_with (first
              | (go_at_call 13; refine (num_any _ _).mono ?_; rintro e wn ⟨rfl, rfl⟩)
              | fail)
            have hcJ : J < C.length := by rw [Hn.out]; exact hlt
            have Hst := hide_ (suc_stn HCk.out hcJ)
            have Hle := hide_ (suc_le HCk.out hcJ)
            obtain ⟨L, hL⟩ : ∃ L, (sucP C J).length = L := ⟨_, rfl⟩
            have HL := hide_ hL
            have hL65 : L ≤ 65 := by have := Hle.out; omega
            obtain ⟨rJ, hrJ⟩ : ∃ rJ, qAt R J = rJ := ⟨_, rfl⟩
            have HrJ := hide_ hrJ
            have HRr : Hid (∀ y : Nat, (y : Int) ∈ sucP C J → y < nr → rJ = true → qAt R y = true) := hide_ (fun y h1 h2 h3 => by
              rw [← hrJ] at h3
              exact (HR.out.is y (by rw [Hn.out]; exact h2)).2 (((HR.out.is J hcJ).1 h3).step h1))
            have HW3 : Hid (Wy.length = nr ∧ ∀ i, i < nr → hAt Wy i = (cnS C R J 0 i : Int)) := hide_ ⟨HWJ.out.1, fun i hi => by rw [cnS_zero]; exact HWJ.out.2 i hi⟩
            have HA3 := hide_ (ah_zero HAJ.out)
            rw [hL]
            clear hL hrJ hcJ HWJ HAJ
            go_wp2_with fail
            go_loopw [15] (fun x15 wr => ∃ (t : Nat) (Wt : List Int) (At : List Bool), t ≤ L ∧ x15 = .int .i64 (t : Int) ∧ Hid (Wt.length = nr ∧ ∀ i, i < nr → hAt Wt i = (cnS C R J t i : Int)) ∧ Hid (GI nr (AhS C R J t) At) ∧ Hid (IOwn wr gw (.slice (some ⟨gw, 0, none⟩) nr nr) Wt) ∧ Hid (Blk wr ga 4 (At.map Value.bool)) ∧ Hid (Blk wr gt 4 (T.map Value.bool)) ∧ Hid (Below gw w9 wr) ∧ Hid (Row .i64 wr al (sucP C J))) (fun x15 _ => L - (intOf x15).toNat)
            case atStart => exact ⟨0, _, _, by omega, rfl, HW3, HA3, HO14, HA14, HT14, HBx14, HRl⟩
            case round =>
              clear HW3 HA3 HO14 HA14 HT14 HBx14 HRl
              obtain ⟨t, Wt, At, ht, rfl, HWt, HAt, HOt, HKt, HTt, HBt, HRt⟩ := hrel
              generalize wr = ws at *
              by_cases hlt3 : t < L
              · have hlt3' : (t : Int) < (L : Int) := by omega
                have htL : t < (sucP C J).length := by rw [HL.out]; exact hlt3
                have hym := hAt_mem htL
                have hyr := Hst.out _ hym
                rw [Hn.out] at hyr
                obtain ⟨y, hy⟩ := Int.eq_ofNat_of_zero_le hyr.1
                rw [hy] at hyr hym
                have hyn : y < nr := by omega
                have y1 : ((y : Int) < 0) = False := by simp
                have y2 : ((nr : Int) ≤ (y : Int)) = False := by simp; omega
                obtain ⟨bl, ol, hal, hbl, hcl⟩ := HRt.out.open (by omega)
                have hne := HRa2.out _ hal (by omega)
                subst hal
                have hne1 : bl ≠ gw := by have : gw < bl := hne.1; omega
                have hne2 : bl ≠ ga := by have : ga < bl := hne.2; omega
                have c1 : ws.cell? ⟨bl, ol + t, none⟩ = some (.int .i64 (y : Int)) := by rw [hcl t htL, ← hy]; rfl
                have cr := bAt (HKx.out ws HBt.out) (k := J) (by rw [HRn.out]; exact hlt)
                have cy := bAt (HKx.out ws HBt.out) (k := y) (by rw [HRn.out]; exact hyn)
                rw [HrJ.out] at cr
                have r1 := (HPx.out ws HBt.out).cell 1
                simp at r1
                have hJI : (J : Int) < (nr : Int) := by omega
                have hyI : (y : Int) < (nr : Int) := by omega
                have Hy := hide_ hy
                have HtL := hide_ htL
                have HNe1 := hide_ hne1
                have HNe2 := hide_ hne2
                have Hym := hide_ hym
                have Hyn := hide_ hyn
                have c0 : 0 < t → ∃ z : Int, ws.cell? ⟨bl, ol + (t - 1), none⟩ = some (.int .i64 z) ∧ z < (y : Int) := fun h0 => by
                  have h1 := hcl (t - 1) (by omega)
                  refine ⟨_, h1, ?_⟩
                  have h2 := List.pairwise_iff_getElem.1 (suc_inc C J) (t - 1) t (by omega) htL (by omega)
                  have e1 : (sucP C J).getD (t - 1) 0 = (sucP C J)[t - 1]'(by omega) := by simp [List.getD, show t - 1 < (sucP C J).length by omega]
                  have e2 : (sucP C J)[t]'htL = (y : Int) := by rw [← hy]; simp [hAt, List.getD, htL]
                  rw [e1, ← e2]
                  exact h2
                have HC0 := hide_ c0
                clear hcl hym hyr hy htL hne hne1 hne2 hbl hyn c0 y1 y2
                go_upto_region 30 with fail
                go_cut [162] from 116 to 161 (fun x162 wc => ∃ wz, wz = wc ∧ x162 = .bool false ∧ Hid (Below ws.heap.size ws wz))
                case first =>
                  have b1 : decide ((y : Int) < 0) = false := decide_eq_false (by omega)
                  have b2 : decide ((nr : Int) ≤ (y : Int)) = false := decide_eq_false (by omega)
                  have b3 : ¬ (nr : Int) ≤ (y : Int) := by omega
                  by_cases ht0 : t = 0
                  · have ht1 : decide ((0 : Int) < (t : Int)) = false := decide_eq_false (by omega)
                    have ht3 : ¬ 0 < t := by omega
                    clear HC0 ht0
                    cases rJ
                    · go_quiet (fail)
                      have HBq := hide_ (below_drewN (Below.refl ws.heap.size ws) nq)
                      go_wp2_with fail
                      go_meet
                      case rel => exact ⟨_, rfl, rfl, HBq⟩
                    · rw [HRr.out y Hym.out Hyn.out rfl] at cy
                      go_quiet (fail)
                      have HBq := hide_ (below_drewN (Below.refl ws.heap.size ws) nq)
                      go_wp2_with fail
                      go_meet
                      case rel => exact ⟨_, rfl, rfl, HBq⟩
                  · obtain ⟨z, cz, hz⟩ := HC0.out (by omega)
                    obtain ⟨t2, ht2⟩ : ∃ t2, t - 1 = t2 := ⟨_, rfl⟩
                    rw [ht2] at cz
                    have hwt : IntKind.i64.wrap ((t : Int) - 1) = (t2 : Int) := by rw [i64w _ (by omega)]; omega
                    have ht1 : decide ((0 : Int) < (t : Int)) = true := decide_eq_true (by omega)
                    have ht3 : 0 < t := by omega
                    have hz1 : decide ((y : Int) ≤ z) = false := decide_eq_false (by omega)
                    have ht4 : (t2 : Int) < (L : Int) := by omega
                    clear HC0 ht2
                    cases rJ
                    · go_quiet (fail)
                      have HBq := hide_ (below_drewN (Below.refl ws.heap.size ws) nq)
                      go_wp2_with fail
                      go_meet
                      case rel => exact ⟨_, rfl, rfl, HBq⟩
                    · rw [HRr.out y Hym.out Hyn.out rfl] at cy
                      go_quiet (fail)
                      have HBq := hide_ (below_drewN (Below.refl ws.heap.size ws) nq)
                      go_wp2_with fail
                      go_meet
                      case rel => exact ⟨_, rfl, rfl, HBq⟩
                case rest =>
                obtain ⟨wz, rfl, rfl, HBz⟩ := hcut
                have HOz := hide_ (HOt.out.later HBz.out)
                have HKz := hide_ (HKt.out.later HBz.out)
                have HTz := hide_ (HTt.out.later HBz.out)
                have HRz := hide_ (HRt.out.later HBz.out)
                have HBz2 : Hid (Below gw w9 wz) := hide_ (HBt.out.trans (HBz.out.mono (by have := (HOt.out.lies (k := gw) rfl).2; omega)))
                have hcl3 := (HRz.out.open (by have := HtL.out; omega))
                obtain ⟨bl3, ol3, hal3, -, hcl3⟩ := hcl3
                injection hal3 with hal3
                injection hal3 with e1 e2 e3
                subst e1 e2
                have c1 : wz.cell? ⟨bl, ol + t, none⟩ = some (.int .i64 (y : Int)) := by rw [hcl3 t HtL.out, ← Hy.out]; rfl
                have cr := bAt (HKx.out wz HBz2.out) (k := J) (by rw [HRn.out]; exact hlt)
                rw [HrJ.out] at cr
                clear hcl3 HOt HKt HTt HRt HBt HBz cy r1 HC0
                cases rJ
                · go_wp2_with fail
                  go_roundw
                  case rel => exact ⟨t + 1, Wt, At, by omega, by go_num, hide_ (wy_skip HrJ.out HWt.out), hide_ (ah_skip HrJ.out HAt.out), HOz, HKz, HTz, HBz2, HRz⟩
                  case measure => simp [intOf]; omega
                · obtain ⟨q, hq⟩ : ∃ q, hAt Wt y = q := ⟨_, rfl⟩
                  have hqc := HWt.out.2 y Hyn.out
                  have hqb := cnS_le C R J t y
                  have hq1 : 0 ≤ q ∧ q ≤ 300 := by rw [hq] at hqc; omega
                  obtain ⟨cw, cwf⟩ := HOz.out.cellH (i := y) (by rw [HWt.out.1]; exact Hyn.out)
                  rw [hq] at cw
                  have hwq : IntKind.i64.wrap (q + 1) = q + 1 := i64w _ (by omega)
                  have HW15 := hide_ (wy_step HWt.out HrJ.out HtL.out Hy.out Hyn.out hq)
                  clear hqc hqb hq
                  go_upto_region 34 with fail
                  obtain ⟨wv, hwv⟩ : ∃ wx, wz.setCell ⟨gw, y, none⟩ (.int .i64 (q + 1)) = wx := ⟨_, rfl⟩
                  have hUv : Upd (fun k => k = gw) wz wv := by rw [← hwv]; exact (Upd.refl (fun k => k = gw) wz).set ⟨gw, y, none⟩ _ (.inl rfl)
                  have HOv : Hid (IOwn wv gw (.slice (some ⟨gw, 0, none⟩) nr nr) (Wt.set y (q + 1))) := hide_ (by rw [← hwv]; exact HOz.out.set (by rw [HWt.out.1]; exact Hyn.out) (q + 1))
                  have HKv := hide_ (HKz.out.upd hUv (fun e => by have := Hgs.out; omega))
                  have HTv := hide_ (HTz.out.upd hUv (fun e => by have := Hgs.out; omega))
                  have hRv : Row .i64 wv (some ⟨bl, ol, none⟩) (sucP C J) := HRz.out.upd hUv (fun x ex e => by
                    injection ex with ex
                    subst ex
                    exact HNe1.out e)
                  have HBv : Hid (Below gw w9 wv) := hide_ (HBz2.out.trans (hUv.below gw (by have := (HOz.out.lies (k := gw) rfl).2; omega) (fun k e => by omega)))
                  have HRv := hide_ hRv
                  try rw [hwv]
                  clear hwv hUv hRv HOz HKz HTz HRz HBz2 cw cwf c1 cr
                  obtain ⟨bl4, ol4, hal4, -, hcl4⟩ := HRv.out.open (by have := HtL.out; omega)
                  injection hal4 with hal4
                  injection hal4 with e1 e2 e3
                  subst e1 e2
                  have c1 : wv.cell? ⟨bl, ol + t, none⟩ = some (.int .i64 (y : Int)) := by rw [hcl4 t HtL.out, ← Hy.out]; rfl
                  have ca := bAt HKv.out (k := y) (by rw [HAt.out.len]; exact Hyn.out)
                  have cf := HKv.out.frozen y
                  have Hca := hide_ ca
                  have Hcf := hide_ cf
                  have Hc1 := hide_ c1
                  have hw1 : IntKind.i64.wrap ((J : Int) + 1) = (J : Int) + 1 := i64w _ (by omega)
                  obtain ⟨aY, haY⟩ : ∃ aY, qAt At y = aY := ⟨_, rfl⟩
                  rw [haY] at ca Hca
                  have HaY := hide_ haY
                  clear hcl4 ca cf c1 haY
                  cases aY
                  · obtain ⟨eY, heY⟩ : ∃ eY, ((y : Int) == (J : Int) + 1) = eY := ⟨_, rfl⟩
                    have HA16 := hide_ (ah_step (v := eY) HAt.out HrJ.out HtL.out Hy.out Hyn.out (by
                      rw [HaY.out, ← heY]
                      by_cases e : y = J + 1
                      · simp [e]
                      · have : ¬ (y : Int) = (J : Int) + 1 := by omega
                        simp [e, this]))
                    refine wp_region_last 22 (fun w' => w'.cell? ⟨bl, ol + t, none⟩ = some (.int .i64 (y : Int)) ∧ w'.cell? ⟨ga, y, none⟩ = some (.bool false)) (by kernel_rfl) (⟨Hc1.out, Hca.out⟩) (fun hHeld => ?_)
                    refine wpAnyF_take [22] (by kernel_rfl) (i := 0) (v := ?ve1) rfl (by kernel_rfl) (by kernel_rfl) (by kernel_rfl) (fun _ _ _ h => h) (Or.inl ⟨by kernel_rfl, ?hye1⟩) hHeld ?reste1
                    case hye1 => intro w' hSw; (try dsimp only at hSw); go_simp; try with_reducible rfl
                    simp only [Act.put]
                    try dsimp only
                    refine wpAnyF_take [22] (by kernel_rfl) (i := 1) (v := ?ve2) rfl (by kernel_rfl) (by kernel_rfl) (by kernel_rfl) (fun _ _ _ h => h) (Or.inl ⟨by kernel_rfl, ?hye2⟩) hHeld ?reste2
                    case hye2 => intro w' hSw; (try dsimp only at hSw); go_simp; try with_reducible rfl
                    simp only [Act.put]
                    try dsimp only
                    refine wpAnyF_take [22] (by kernel_rfl) (i := 2) (v := ?ve3) rfl (by kernel_rfl) (by kernel_rfl) (by kernel_rfl) (fun _ _ _ h => h) (Or.inl ⟨by kernel_rfl, ?hye3⟩) hHeld ?reste3
                    case hye3 => intro w' hSw; (try dsimp only at hSw); go_simp; try with_reducible rfl
                    simp only [Act.put]
                    try dsimp only
                    refine wpAnyF_take [22] (by kernel_rfl) (i := 3) (v := ?ve4) rfl (by kernel_rfl) (by kernel_rfl) (by kernel_rfl) (fun _ _ _ h => h) (Or.inl ⟨by kernel_rfl, ?hye4⟩) hHeld ?reste4
                    case hye4 => intro w' hSw; (try dsimp only at hSw); go_simp; try with_reducible rfl
                    simp only [Act.put]
                    try dsimp only
                    refine wpAnyF_take [22] (by kernel_rfl) (i := 4) (v := ?ve5) rfl (by kernel_rfl) (by kernel_rfl) (by kernel_rfl) (fun _ _ _ h => h) (Or.inl ⟨by kernel_rfl, ?hye5⟩) hHeld ?reste5
                    case hye5 => intro w' hSw; (try dsimp only at hSw); go_simp; try with_reducible rfl
                    simp only [Act.put]
                    try dsimp only
                    refine wpAnyF_take [22] (by kernel_rfl) (i := 5) (v := ?ve6) rfl (by kernel_rfl) (by kernel_rfl) (by kernel_rfl) (fun _ _ _ h => h) (Or.inl ⟨by kernel_rfl, ?hye6⟩) hHeld ?reste6
                    case hye6 => intro w' hSw; (try dsimp only at hSw); go_simp; try with_reducible rfl
                    simp only [Act.put]
                    try dsimp only
                    refine wpAnyF_take [22] (by kernel_rfl) (i := 6) (v := ?ve7) rfl (by kernel_rfl) (by kernel_rfl) (by kernel_rfl) (fun _ _ _ h => h) (Or.inl ⟨by kernel_rfl, ?hye7⟩) hHeld ?reste7
                    case hye7 => intro w' hSw; (try dsimp only at hSw); go_simp; try with_reducible rfl
                    simp only [Act.put]
                    try dsimp only
                    refine wpAnyF_take [22] (by kernel_rfl) (i := 7) (v := ?ve8) rfl (by kernel_rfl) (by kernel_rfl) (by kernel_rfl) (fun _ _ _ h => h) (Or.inl ⟨by kernel_rfl, ?hye8⟩) hHeld ?reste8
                    case hye8 => intro w' hSw; (try dsimp only at hSw); go_simp; try with_reducible rfl
                    simp only [Act.put]
                    try dsimp only
                    refine wpAnyF_take [22] (by kernel_rfl) (i := 8) (v := ?ve9) rfl (by kernel_rfl) (by kernel_rfl) (by kernel_rfl) (fun _ _ _ h => h) (Or.inl ⟨by kernel_rfl, ?hye9⟩) hHeld ?reste9
                    case hye9 => intro w' hSw; (try dsimp only at hSw); go_simp; try with_reducible rfl
                    simp only [Act.put]
                    try dsimp only
                    refine wpAnyF_take [22] (by kernel_rfl) (i := 9) (v := ?ve10) rfl (by kernel_rfl) (by kernel_rfl) (by kernel_rfl) (fun _ _ _ h => h) (Or.inl ⟨by kernel_rfl, ?hye10⟩) hHeld ?reste10
                    case hye10 => intro w' hSw; (try dsimp only at hSw); go_simp; try with_reducible rfl
                    simp only [Act.put]
                    try dsimp only
                    refine wpAnyF_take [22] (by kernel_rfl) (i := 10) (v := ?ve11) rfl (by kernel_rfl) (by kernel_rfl) (by kernel_rfl) (fun _ _ _ h => h) (Or.inl ⟨by kernel_rfl, ?hye11⟩) hHeld ?reste11
                    case hye11 => intro w' hSw; (try dsimp only at hSw); go_simp; try with_reducible rfl
                    simp only [Act.put]
                    try dsimp only
                    refine wpAnyF_take [22] (by kernel_rfl) (i := 11) (v := ?ve12) rfl (by kernel_rfl) (by kernel_rfl) (by kernel_rfl) (fun _ _ _ h => h) (Or.inl ⟨by kernel_rfl, ?hye12⟩) hHeld ?reste12
                    case hye12 => intro w' hSw; (try dsimp only at hSw); go_simp; try with_reducible rfl
                    simp only [Act.put]
                    try dsimp only
                    refine wpAnyF_take [22] (by kernel_rfl) (i := 12) (v := ?ve13) rfl (by kernel_rfl) (by kernel_rfl) (by kernel_rfl) (fun _ _ _ h => h) (Or.inl ⟨by kernel_rfl, ?hye13⟩) hHeld ?reste13
                    case hye13 => intro w' hSw; (try dsimp only at hSw); go_simp; try with_reducible rfl
                    simp only [Act.put]
                    try dsimp only
                    refine wpAnyF_take [22] (by kernel_rfl) (i := 13) (v := ?ve14) rfl (by kernel_rfl) (by kernel_rfl) (by kernel_rfl) (fun _ _ _ h => h) (Or.inl ⟨by kernel_rfl, ?hye14⟩) hHeld ?reste14
                    case hye14 => intro w' hSw; (try dsimp only at hSw); go_simp; try with_reducible rfl
                    simp only [Act.put]
                    try dsimp only
                    refine wpAnyF_take [22] (by kernel_rfl) (i := 14) (v := ?ve15) rfl (by kernel_rfl) (by kernel_rfl) (by kernel_rfl) (fun _ _ _ h => h) (Or.inl ⟨by kernel_rfl, ?hye15⟩) hHeld ?reste15
                    case hye15 => intro w' hSw; (try dsimp only at hSw); go_simp; try with_reducible rfl
                    simp only [Act.put]
                    try dsimp only
                    refine wpAnyF_take [22] (by kernel_rfl) (i := 15) (v := ?ve16) rfl (by kernel_rfl) (by kernel_rfl) (by kernel_rfl) (fun _ _ _ h => h) (Or.inl ⟨by kernel_rfl, ?hye16⟩) hHeld ?reste16
                    case hye16 => intro w' hSw; (try dsimp only at hSw); go_simp; try with_reducible rfl
                    simp only [Act.put]
                    try dsimp only
                    refine wpAnyF_take [22] (by kernel_rfl) (i := 16) (v := ?ve17) rfl (by kernel_rfl) (by kernel_rfl) (by kernel_rfl) (fun _ _ _ h => h) (Or.inl ⟨by kernel_rfl, ?hye17⟩) hHeld ?reste17
                    case hye17 => intro w' hSw; (try dsimp only at hSw); go_simp; try with_reducible rfl
                    simp only [Act.put]
                    try dsimp only
                    refine wpAnyF_take [22] (by kernel_rfl) (i := 17) (v := ?ve18) rfl (by kernel_rfl) (by kernel_rfl) (by kernel_rfl) (fun _ _ _ h => h) (Or.inl ⟨by kernel_rfl, ?hye18⟩) hHeld ?reste18
                    case hye18 => intro w' hSw; (try dsimp only at hSw); go_simp; try with_reducible rfl
                    simp only [Act.put]
                    try dsimp only
                    refine wpAnyF_take [22] (by kernel_rfl) (i := 18) (v := ?ve19) rfl (by kernel_rfl) (by kernel_rfl) (by kernel_rfl) (fun _ _ _ h => h) (Or.inl ⟨by kernel_rfl, ?hye19⟩) hHeld ?reste19
                    case hye19 => intro w' hSw; (try dsimp only at hSw); go_simp; try with_reducible rfl
                    simp only [Act.put]
                    try dsimp only
                    refine wpAnyF_take [22] (by kernel_rfl) (i := 19) (v := ?ve20) rfl (by kernel_rfl) (by kernel_rfl) (by kernel_rfl) (fun _ _ _ h => h) (Or.inl ⟨by kernel_rfl, ?hye20⟩) hHeld ?reste20
                    case hye20 => intro w' hSw; (try dsimp only at hSw); go_simp; try with_reducible rfl
                    simp only [Act.put]
                    try dsimp only
                    refine wpAnyF_take [22] (by kernel_rfl) (i := 20) (v := ?ve21) rfl (by kernel_rfl) (by kernel_rfl) (by kernel_rfl) (fun _ _ _ h => h) (Or.inl ⟨by kernel_rfl, ?hye21⟩) hHeld ?reste21
                    case hye21 => intro w' hSw; (try dsimp only at hSw); go_simp; try with_reducible rfl
                    simp only [Act.put]
                    try dsimp only
                    refine wpAnyF_take [22] (by kernel_rfl) (i := 21) (v := ?ve22) rfl (by kernel_rfl) (by kernel_rfl) (by kernel_rfl) (fun _ _ _ h => h) (Or.inl ⟨by kernel_rfl, ?hye22⟩) hHeld ?reste22
                    case hye22 => intro w' hSw; (try dsimp only at hSw); go_simp; try with_reducible rfl
                    simp only [Act.put]
                    try dsimp only
                    refine wpAnyF_ready (rs := [22]) (by kernel_rfl) (by simp) ?_
                    refine AllReadyF.last rfl (fun K hK => ?_)
                    have q2 : wv.drew.cell? ⟨ga, y, none⟩ = some (.bool false) := Hca.out
                    have qz : wv.drew.frozen? ⟨ga, y, none⟩ = false := Hcf.out
                    go_simp
                    refine hK.out _ _ ?_
                    clear hK K
                    refine wpAnyF_done (by kernel_rfl) ?_ _
                    obtain ⟨wu, hwu⟩ : ∃ wx, (wv.setCell ⟨ga, y, none⟩ (.bool eY)).drew = wx := ⟨_, rfl⟩
                    have hUu : Upd (fun k => k = ga) wv wu := by rw [← hwu]; exact ((Upd.refl (fun k => k = ga) wv).set ⟨ga, y, none⟩ _ (.inl rfl)).drew
                    have HOu := hide_ (HOv.out.upd hUu (fun k e e2 => by rw [e2] at e; exact HOv.out.neB HKv.out (by decide) e))
                    have HKu : Hid (Blk wu ga 4 ((At.set y eY).map Value.bool)) := hide_ (by
                      rw [← hwu, List.map_set]
                      exact (HKv.out.set y (.bool eY)).drew)
                    have HTu := hide_ (HTv.out.upd hUu (fun e => by have := Hgs.out; omega))
                    have HRu : Hid (Row .i64 wu (some ⟨bl, ol, none⟩) (sucP C J)) := hide_ (HRv.out.upd hUu (fun x ex e => by
                      injection ex with ex
                      subst ex
                      exact HNe2.out e))
                    have HBu : Hid (Below gw w9 wu) := hide_ (HBv.out.trans (hUu.below gw (by have := (HOv.out.lies (k := gw) rfl).2; omega) (fun k e => by have := Hgs.out; omega)))
                    try rw [hwu]
                    clear hwu hUu HOv HKv HTv HRv HBv
                    go_wp2_with fail
                    go_roundw
                    case rel => exact ⟨t + 1, _, _, by omega, by go_num, HW15, HA16, HOu, HKu, HTu, HBu, HRu⟩
                    case measure => simp [intOf]; omega
                  · have HA16 := hide_ (ah_step (v := true) HAt.out HrJ.out HtL.out Hy.out Hyn.out (by rw [HaY.out]; rfl))
                    refine wp_region_last 22 (fun w' => w'.cell? ⟨bl, ol + t, none⟩ = some (.int .i64 (y : Int)) ∧ w'.cell? ⟨ga, y, none⟩ = some (.bool true)) (by kernel_rfl) (⟨Hc1.out, Hca.out⟩) (fun hHeld => ?_)
                    refine wpAnyF_take [22] (by kernel_rfl) (i := 0) (v := ?vt1) rfl (by kernel_rfl) (by kernel_rfl) (by kernel_rfl) (fun _ _ _ h => h) (Or.inl ⟨by kernel_rfl, ?hyt1⟩) hHeld ?restt1
                    case hyt1 => intro w' hSw; (try dsimp only at hSw); go_simp; try with_reducible rfl
                    simp only [Act.put]
                    try dsimp only
                    refine wpAnyF_take [22] (by kernel_rfl) (i := 1) (v := ?vt2) rfl (by kernel_rfl) (by kernel_rfl) (by kernel_rfl) (fun _ _ _ h => h) (Or.inl ⟨by kernel_rfl, ?hyt2⟩) hHeld ?restt2
                    case hyt2 => intro w' hSw; (try dsimp only at hSw); go_simp; try with_reducible rfl
                    simp only [Act.put]
                    try dsimp only
                    refine wpAnyF_take [22] (by kernel_rfl) (i := 2) (v := ?vt3) rfl (by kernel_rfl) (by kernel_rfl) (by kernel_rfl) (fun _ _ _ h => h) (Or.inl ⟨by kernel_rfl, ?hyt3⟩) hHeld ?restt3
                    case hyt3 => intro w' hSw; (try dsimp only at hSw); go_simp; try with_reducible rfl
                    simp only [Act.put]
                    try dsimp only
                    refine wpAnyF_take [22] (by kernel_rfl) (i := 3) (v := ?vt4) rfl (by kernel_rfl) (by kernel_rfl) (by kernel_rfl) (fun _ _ _ h => h) (Or.inl ⟨by kernel_rfl, ?hyt4⟩) hHeld ?restt4
                    case hyt4 => intro w' hSw; (try dsimp only at hSw); go_simp; try with_reducible rfl
                    simp only [Act.put]
                    try dsimp only
                    refine wpAnyF_take [22] (by kernel_rfl) (i := 4) (v := ?vt5) rfl (by kernel_rfl) (by kernel_rfl) (by kernel_rfl) (fun _ _ _ h => h) (Or.inl ⟨by kernel_rfl, ?hyt5⟩) hHeld ?restt5
                    case hyt5 => intro w' hSw; (try dsimp only at hSw); go_simp; try with_reducible rfl
                    simp only [Act.put]
                    try dsimp only
                    refine wpAnyF_take [22] (by kernel_rfl) (i := 5) (v := ?vt6) rfl (by kernel_rfl) (by kernel_rfl) (by kernel_rfl) (fun _ _ _ h => h) (Or.inl ⟨by kernel_rfl, ?hyt6⟩) hHeld ?restt6
                    case hyt6 => intro w' hSw; (try dsimp only at hSw); go_simp; try with_reducible rfl
                    simp only [Act.put]
                    try dsimp only
                    refine wpAnyF_take [22] (by kernel_rfl) (i := 6) (v := ?vt7) rfl (by kernel_rfl) (by kernel_rfl) (by kernel_rfl) (fun _ _ _ h => h) (Or.inl ⟨by kernel_rfl, ?hyt7⟩) hHeld ?restt7
                    case hyt7 => intro w' hSw; (try dsimp only at hSw); go_simp; try with_reducible rfl
                    simp only [Act.put]
                    try dsimp only
                    refine wpAnyF_take [22] (by kernel_rfl) (i := 7) (v := ?vt8) rfl (by kernel_rfl) (by kernel_rfl) (by kernel_rfl) (fun _ _ _ h => h) (Or.inl ⟨by kernel_rfl, ?hyt8⟩) hHeld ?restt8
                    case hyt8 => intro w' hSw; (try dsimp only at hSw); go_simp; try with_reducible rfl
                    simp only [Act.put]
                    try dsimp only
                    refine wpAnyF_take [22] (by kernel_rfl) (i := 8) (v := ?vt9) rfl (by kernel_rfl) (by kernel_rfl) (by kernel_rfl) (fun _ _ _ h => h) (Or.inl ⟨by kernel_rfl, ?hyt9⟩) hHeld ?restt9
                    case hyt9 => intro w' hSw; (try dsimp only at hSw); go_simp; try with_reducible rfl
                    simp only [Act.put]
                    try dsimp only
                    refine wpAnyF_take [22] (by kernel_rfl) (i := 9) (v := ?vt10) rfl (by kernel_rfl) (by kernel_rfl) (by kernel_rfl) (fun _ _ _ h => h) (Or.inl ⟨by kernel_rfl, ?hyt10⟩) hHeld ?restt10
                    case hyt10 => intro w' hSw; (try dsimp only at hSw); go_simp; try with_reducible rfl
                    simp only [Act.put]
                    try dsimp only
                    refine wpAnyF_take [22] (by kernel_rfl) (i := 10) (v := ?vt11) rfl (by kernel_rfl) (by kernel_rfl) (by kernel_rfl) (fun _ _ _ h => h) (Or.inl ⟨by kernel_rfl, ?hyt11⟩) hHeld ?restt11
                    case hyt11 => intro w' hSw; (try dsimp only at hSw); go_simp; try with_reducible rfl
                    simp only [Act.put]
                    try dsimp only
                    refine wpAnyF_take [22] (by kernel_rfl) (i := 11) (v := ?vt12) rfl (by kernel_rfl) (by kernel_rfl) (by kernel_rfl) (fun _ _ _ h => h) (Or.inl ⟨by kernel_rfl, ?hyt12⟩) hHeld ?restt12
                    case hyt12 => intro w' hSw; (try dsimp only at hSw); go_simp; try with_reducible rfl
                    simp only [Act.put]
                    try dsimp only
                    refine wpAnyF_take [22] (by kernel_rfl) (i := 12) (v := ?vt13) rfl (by kernel_rfl) (by kernel_rfl) (by kernel_rfl) (fun _ _ _ h => h) (Or.inl ⟨by kernel_rfl, ?hyt13⟩) hHeld ?restt13
                    case hyt13 => intro w' hSw; (try dsimp only at hSw); go_simp; try with_reducible rfl
                    simp only [Act.put]
                    try dsimp only
                    refine wpAnyF_take [22] (by kernel_rfl) (i := 13) (v := undef) rfl (by kernel_rfl) (by kernel_rfl) (by kernel_rfl) (fun _ _ _ h => h) (Or.inr ⟨by kernel_rfl, rfl⟩) hHeld ?_
                    simp only [Act.put]
                    try dsimp only
                    refine wpAnyF_take [22] (by kernel_rfl) (i := 14) (v := undef) rfl (by kernel_rfl) (by kernel_rfl) (by kernel_rfl) (fun _ _ _ h => h) (Or.inr ⟨by kernel_rfl, rfl⟩) hHeld ?_
                    simp only [Act.put]
                    try dsimp only
                    refine wpAnyF_take [22] (by kernel_rfl) (i := 15) (v := undef) rfl (by kernel_rfl) (by kernel_rfl) (by kernel_rfl) (fun _ _ _ h => h) (Or.inr ⟨by kernel_rfl, rfl⟩) hHeld ?_
                    simp only [Act.put]
                    try dsimp only
                    refine wpAnyF_take [22] (by kernel_rfl) (i := 16) (v := undef) rfl (by kernel_rfl) (by kernel_rfl) (by kernel_rfl) (fun _ _ _ h => h) (Or.inr ⟨by kernel_rfl, rfl⟩) hHeld ?_
                    simp only [Act.put]
                    try dsimp only
                    refine wpAnyF_take [22] (by kernel_rfl) (i := 17) (v := undef) rfl (by kernel_rfl) (by kernel_rfl) (by kernel_rfl) (fun _ _ _ h => h) (Or.inr ⟨by kernel_rfl, rfl⟩) hHeld ?_
                    simp only [Act.put]
                    try dsimp only
                    refine wpAnyF_take [22] (by kernel_rfl) (i := 18) (v := undef) rfl (by kernel_rfl) (by kernel_rfl) (by kernel_rfl) (fun _ _ _ h => h) (Or.inr ⟨by kernel_rfl, rfl⟩) hHeld ?_
                    simp only [Act.put]
                    try dsimp only
                    refine wpAnyF_take [22] (by kernel_rfl) (i := 19) (v := undef) rfl (by kernel_rfl) (by kernel_rfl) (by kernel_rfl) (fun _ _ _ h => h) (Or.inr ⟨by kernel_rfl, rfl⟩) hHeld ?_
                    simp only [Act.put]
                    try dsimp only
                    refine wpAnyF_take [22] (by kernel_rfl) (i := 20) (v := ?vt14) rfl (by kernel_rfl) (by kernel_rfl) (by kernel_rfl) (fun _ _ _ h => h) (Or.inl ⟨by kernel_rfl, ?hyt14⟩) hHeld ?restt14
                    case hyt14 => intro w' hSw; (try dsimp only at hSw); go_simp; try with_reducible rfl
                    simp only [Act.put]
                    try dsimp only
                    refine wpAnyF_take [22] (by kernel_rfl) (i := 21) (v := ?vt15) rfl (by kernel_rfl) (by kernel_rfl) (by kernel_rfl) (fun _ _ _ h => h) (Or.inl ⟨by kernel_rfl, ?hyt15⟩) hHeld ?restt15
                    case hyt15 => intro w' hSw; (try dsimp only at hSw); go_simp; try with_reducible rfl
                    simp only [Act.put]
                    try dsimp only
                    refine wpAnyF_ready (rs := [22]) (by kernel_rfl) (by simp) ?_
                    refine AllReadyF.last rfl (fun K hK => ?_)
                    have q2 : wv.drew.cell? ⟨ga, y, none⟩ = some (.bool true) := Hca.out
                    have qz : wv.drew.frozen? ⟨ga, y, none⟩ = false := Hcf.out
                    go_simp
                    refine hK.out _ _ ?_
                    clear hK K
                    refine wpAnyF_done (by kernel_rfl) ?_ _
                    obtain ⟨wu, hwu⟩ : ∃ wx, (wv.setCell ⟨ga, y, none⟩ (.bool true)).drew = wx := ⟨_, rfl⟩
                    have hUu : Upd (fun k => k = ga) wv wu := by rw [← hwu]; exact ((Upd.refl (fun k => k = ga) wv).set ⟨ga, y, none⟩ _ (.inl rfl)).drew
                    have HOu := hide_ (HOv.out.upd hUu (fun k e e2 => by rw [e2] at e; exact HOv.out.neB HKv.out (by decide) e))
                    have HKu : Hid (Blk wu ga 4 ((At.set y true).map Value.bool)) := hide_ (by
                      rw [← hwu, List.map_set]
                      exact (HKv.out.set y (.bool true)).drew)
                    have HTu := hide_ (HTv.out.upd hUu (fun e => by have := Hgs.out; omega))
                    have HRu : Hid (Row .i64 wu (some ⟨bl, ol, none⟩) (sucP C J)) := hide_ (HRv.out.upd hUu (fun x ex e => by
                      injection ex with ex
                      subst ex
                      exact HNe2.out e))
                    have HBu : Hid (Below gw w9 wu) := hide_ (HBv.out.trans (hUu.below gw (by have := (HOv.out.lies (k := gw) rfl).2; omega) (fun k e => by have := Hgs.out; omega)))
                    try rw [hwu]
                    clear hwu hUu HOv HKv HTv HRv HBv
                    go_wp2_with fail
                    go_roundw
                    case rel => exact ⟨t + 1, _, _, by omega, by go_num, HW15, HA16, HOu, HKu, HTu, HBu, HRu⟩
                    case measure => simp [intOf]; omega
              · have et : t = L := by omega
                subst et
                have HWn : Hid (Wt.length = nr ∧ ∀ i, i < nr → hAt Wt i = (cnW C R i (J + 1) : Int)) := hide_ ⟨HWt.out.1, fun i hi => by rw [HWt.out.2 i hi, ← HL.out, cnS_all]⟩
                have HAn : Hid (GI nr (ahP C R (J + 1)) At) := hide_ (ah_all (by rw [HL.out]; exact HAt.out))
                go_wp2_with fail
                go_roundw
                case rel => exact ⟨J + 1, Wt, At, by omega, by go_num, HWn, HAn, HOt, HKt, HTt, HBt⟩
                case measure => simp [intOf]; omega
          · have eJ : J = nr := by omega
            subst eJ
            have HKw := hide_ (HKx.out wp HBJ.out)
            have HRbw : Hid (Row .i64 wp ab (blF G J)) := hide_ (HRb.out.later (by rw [Hgw.out]; exact HBJ.out))
            have HGT : Hid (GI J (fun k => (k : Int) ∈ E) T) := hide_ (HGj.out.congr (fun k _ => by rw [hAt_ex, Hm.out]; exact Iff.rfl))
            have HBf := hide_ (HBx2.out wp HBJ.out)
            clear hlt r0 r2
            go_wp2_with fail
            go_loopw [16, 17] (fun x16 x17 wr => ∃ (i : Nat), i ≤ J ∧ x16 = .int .i64 ((blF G i).length : Int) ∧ x17 = .int .i64 (i : Int) ∧ wp = wr) (fun _ x17 _ => J - (intOf x17).toNat)
            case atStart => exact ⟨0, by omega, rfl, rfl, rfl⟩
            case round =>
              obtain ⟨i, hi, rfl, rfl, rfl⟩ := hrel
              have hble := bl_len G i
              by_cases hlt : i < J
              · have hlt' : (i : Int) < (J : Int) := by omega
                have hiC : i < C.length := by rw [Hn.out]; exact hlt
                obtain ⟨k1, k2, k3, k4⟩ := closed_ok HCk.out HR.out HG.out hiC
                have hnx := bl_next G hlt
                have cr := bAt HKw.out (k := i) (by rw [HRn.out]; exact hlt)
                have ct := bAt HKT.out (k := i) (by rw [HGT.out.len]; exact hlt)
                have ca := bAt HKA.out (k := i) (by rw [HAJ.out.len]; exact hlt)
                obtain ⟨cw, -⟩ := HOJ.out.cellH (i := i) (by rw [HWJ.out.1]; exact hlt)
                rw [HWJ.out.2 i hlt] at cw
                have hte := HGT.out.is i hlt
                have hah := HAJ.out.is i hlt
                have hcl := cnW_le C R i J
                rw [Hn.out] at k1 k4
                obtain ⟨rI, hrI⟩ : ∃ rI, qAt R i = rI := ⟨_, rfl⟩
                obtain ⟨eI, heI⟩ : ∃ eI, qAt T i = eI := ⟨_, rfl⟩
                obtain ⟨aI, haI⟩ : ∃ aI, qAt A i = aI := ⟨_, rfl⟩
                obtain ⟨gI, hgI⟩ : ∃ gI, qAt G i = gI := ⟨_, rfl⟩
                obtain ⟨wI, hwI⟩ : ∃ wI, cnW C R i J = wI := ⟨_, rfl⟩
                obtain ⟨ln, hln⟩ : ∃ ln, (blF G i).length = ln := ⟨_, rfl⟩
                rw [hrI] at cr
                rw [heI] at ct
                rw [haI] at ca
                rw [hwI] at cw
                have HL2 : Hid ((blF G (i + 1)).length = if gI = true then ln + 1 else ln) := hide_ (by
                  rw [blF, hgI, List.length_append, hln]
                  cases gI <;> simp)
                have Hnx : Hid (gI = true ↔ (ln < nb ∧ hAt (blF G J) ln = (i : Int))) := hide_ (by rw [← hgI, ← hln, ← Hnb.out]; exact hnx)
                have HC4 : Hid ((rI = false ∧ gI = false ∧ eI = false) ∨ (rI = true ∧ gI = true ∧ eI = true) ∨ (rI = true ∧ gI = true ∧ eI = false ∧ wI ≠ 0) ∨ (rI = true ∧ gI = false ∧ eI = false ∧ wI = 1 ∧ aI = true)) := hide_ (by
                  rw [hrI, hgI] at k2 k3 k4
                  rw [hrI] at k1
                  rw [heI] at hte
                  rw [haI] at hah
                  rw [hwI] at k1 k4
                  cases rI
                  · left
                    refine ⟨rfl, ?_, ?_⟩
                    · cases gI
                      · rfl
                      · exact absurd (k2 rfl) (by simp)
                    · cases eI
                      · rfl
                      · exact absurd (k3 (hte.1 rfl)).1 (by simp)
                  · cases gI
                    · right; right; right
                      obtain ⟨h1, h2⟩ := k4 rfl rfl
                      refine ⟨rfl, rfl, ?_, h1, ?_⟩
                      · cases eI
                        · rfl
                        · exact absurd (k3 (hte.1 rfl)).2 (by simp)
                      · exact hah.2 h2
                    · cases eI
                      · right; right; left
                        refine ⟨rfl, rfl, rfl, ?_⟩
                        have := k1 rfl (fun h => by have := hte.2 h; cases this)
                        omega
                      · right; left; exact ⟨rfl, rfl, rfl⟩)
                rw [hln]
                have hlnb : ln ≤ 300 := by omega
                have hwb : wI ≤ 300 := by omega
                have hwl : IntKind.i64.wrap ((ln : Int) + 1) = ((ln + 1 : Nat) : Int) := by rw [i64w _ (by omega)]; omega
                clear k1 k2 k3 k4 hnx hte hah hcl hrI heI haI hgI hwI hln hble hiC
                as_aux_lemma =>
                  rcases HC4.out with ⟨e1, e2, e3⟩ | ⟨e1, e2, e3⟩ | ⟨e1, e2, e3, hw0⟩ | ⟨e1, e2, e3, e4, e5⟩
                  · subst e1 e2 e3
                    by_cases hlb : ln < nb
                    · have g1 : decide ((ln : Int) < (nb : Int)) = true := decide_eq_true (by omega)
                      have g1' : (ln : Int) < (nb : Int) := by omega
                      obtain ⟨bb, ob, hab, -, hcb⟩ := HRbw.out.open (by rw [Hnb.out]; omega)
                      subst hab
                      have cb2 := hcb ln (by rw [Hnb.out]; exact hlb)
                      obtain ⟨z, hz⟩ : ∃ z, hAt (blF G J) ln = z := ⟨_, rfl⟩
                      have cb3 : wp.cell? ⟨bb, ob + ln, none⟩ = some (.int .i64 z) := by rw [← hz]; exact cb2
                      have g2 : (z == (i : Int)) = false := by
                        have h1 : ¬ z = (i : Int) := fun e => by
                          have := Hnx.out.2 ⟨hlb, by rw [hz]; exact e⟩
                          cases this
                        simpa using h1
                      clear hcb cb2 hz hlb
                      go_wp2_with fail
                      go_roundw
                      case rel => exact ⟨i + 1, by omega, by rw [HL2.out]; simp, by go_num, by first | rfl | trivial⟩
                      case measure => simp [intOf]; omega
                    · have g1 : decide ((ln : Int) < (nb : Int)) = false := decide_eq_false (by omega)
                      have g1' : ¬ (ln : Int) < (nb : Int) := by omega
                      clear hlb
                      go_wp2_with fail
                      go_roundw
                      case rel => exact ⟨i + 1, by omega, by rw [HL2.out]; simp, by go_num, by first | rfl | trivial⟩
                      case measure => simp [intOf]; omega
                  · subst e1 e2 e3
                    obtain ⟨hlb, hzi⟩ := Hnx.out.1 rfl
                    have g1 : decide ((ln : Int) < (nb : Int)) = true := decide_eq_true (by omega)
                    have g1' : (ln : Int) < (nb : Int) := by omega
                    obtain ⟨bb, ob, hab, -, hcb⟩ := HRbw.out.open (by rw [Hnb.out]; omega)
                    subst hab
                    have cb3 : wp.cell? ⟨bb, ob + ln, none⟩ = some (.int .i64 (i : Int)) := by rw [hcb ln (by rw [Hnb.out]; exact hlb), ← hzi]; rfl
                    clear hcb hzi hlb
                    go_wp2_with fail
                    go_roundw
                    case rel => exact ⟨i + 1, by omega, by rw [HL2.out]; simp, by go_num, by first | rfl | trivial⟩
                    case measure => simp [intOf]; omega
                  · subst e1 e2 e3
                    obtain ⟨hlb, hzi⟩ := Hnx.out.1 rfl
                    have g1 : decide ((ln : Int) < (nb : Int)) = true := decide_eq_true (by omega)
                    have g1' : (ln : Int) < (nb : Int) := by omega
                    obtain ⟨bb, ob, hab, -, hcb⟩ := HRbw.out.open (by rw [Hnb.out]; omega)
                    subst hab
                    have cb3 : wp.cell? ⟨bb, ob + ln, none⟩ = some (.int .i64 (i : Int)) := by rw [hcb ln (by rw [Hnb.out]; exact hlb), ← hzi]; rfl
                    clear hcb hzi hlb
                    have g3 : ((wI : Int) == 0) = false := by simp; omega
                    clear hw0
                    go_wp2_with fail
                    go_roundw
                    case rel => exact ⟨i + 1, by omega, by rw [HL2.out]; simp, by go_num, by first | rfl | trivial⟩
                    case measure => simp [intOf]; omega
                  · subst e1 e2 e3 e4 e5
                    by_cases hlb : ln < nb
                    · have g1 : decide ((ln : Int) < (nb : Int)) = true := decide_eq_true (by omega)
                      have g1' : (ln : Int) < (nb : Int) := by omega
                      obtain ⟨bb, ob, hab, -, hcb⟩ := HRbw.out.open (by rw [Hnb.out]; omega)
                      subst hab
                      have cb2 := hcb ln (by rw [Hnb.out]; exact hlb)
                      obtain ⟨z, hz⟩ : ∃ z, hAt (blF G J) ln = z := ⟨_, rfl⟩
                      have cb3 : wp.cell? ⟨bb, ob + ln, none⟩ = some (.int .i64 z) := by rw [← hz]; exact cb2
                      have g2 : (z == (i : Int)) = false := by
                        have h1 : ¬ z = (i : Int) := fun e => by
                          have := Hnx.out.2 ⟨hlb, by rw [hz]; exact e⟩
                          cases this
                        simpa using h1
                      clear hcb cb2 hz hlb
                      go_wp2_with fail
                      go_roundw
                      case rel => exact ⟨i + 1, by omega, by rw [HL2.out]; simp, by go_num, by first | rfl | trivial⟩
                      case measure => simp [intOf]; omega
                    · have g1 : decide ((ln : Int) < (nb : Int)) = false := decide_eq_false (by omega)
                      have g1' : ¬ (ln : Int) < (nb : Int) := by omega
                      clear hlb
                      go_wp2_with fail
                      go_roundw
                      case rel => exact ⟨i + 1, by omega, by rw [HL2.out]; simp, by go_num, by first | rfl | trivial⟩
                      case measure => simp [intOf]; omega
              · have ei : i = J := by omega
                subst ei
                rw [Hnb.out]
                go_wp2_with fail
                go_ret
                exact ⟨by simp, HBf.out⟩
  · have fz : (K.1 == 0) = false := by simpa using hz
    have e1 : nr = 0 := by
      rcases HQ5.out with ⟨-, h⟩ | ⟨h, -⟩
      · exact h
      · exact absurd h hz
    have e2 : nb = 0 := by
      rcases HQ7.out with ⟨-, h⟩ | ⟨h, -⟩
      · exact h
      · exact absurd h hz
    subst e1 e2
    clear hz
    go_wp2_with fail
    go_ret
    exact ⟨rfl, HBw9.out⟩
end Go.Proofs.YtiojpohmgjdgfaaGreat
