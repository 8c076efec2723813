import Derived.Test.YtjamfbpdepahnaaGreatPart50
import Derived.Test.YtjamfbpdepahnaaGreatPart49
import Derived.Test.YtjamfbpdepahnaaGreatPart01
namespace Go.Proofs.YtjamfbpdepahnaaGreat
open Go.RowKit
set_option linter.unusedVariables false
set_option linter.unusedSimpArgs false
set_option maxRecDepth 100000 in
set_option maxHeartbeats 16000000 in
theorem target18_any (x : In) (w : World) : Calls Tryz.prog 10 #[.agg #[.int .i64 x.op, .int .i64 x.a, .int .i64 x.b, .int .i64 x.c]] w fun e w' => e = .returned (.bool (htP x.op)) ∧ Hid (Below w.heap.size w w') := by
  obtain ⟨d, hd⟩ : ∃ d, htP x.op = d := ⟨_, rfl⟩
  rw [hd]
  unfold htP at hd
  have Hd := hide_ hd
  clear hd
  obtain ⟨w1, hw1⟩ : ∃ wx, w.alloc (.cells #[.int .i64 x.op, .int .i64 x.a, .int .i64 x.b, .int .i64 x.c] 37) = wx := ⟨_, rfl⟩
  have HB1 : Hid (Below w.heap.size w w1) := hide_ (by rw [← hw1]; exact below1 _ _)
  have KX : Blk w1 w.heap.size 37 (inc x) := by rw [← hw1]; exact Blk.newA w _ _
  obtain ⟨i0, -, -, -⟩ := KX.ci
  clear KX
  cases d
  · have h := of_decide_eq_false Hd.out
    have f1 : (x.op == 7) = false := by simp; omega
    have f2 : (x.op == 9) = false := by simp; omega
    have f3 : (x.op == 11) = false := by simp; omega
    have f4 : (x.op == 12) = false := by simp; omega
    have f5 : (x.op == 13) = false := by simp; omega
    have f6 : (x.op == 14) = false := by simp; omega
    have f7 : (x.op == 15) = false := by simp; omega
    have f8 : (x.op == 19) = false := by simp; omega
    have f9 : (x.op == 40) = false := by simp; omega
    have f10 : (x.op == 47) = false := by simp; omega
    clear h
    go_enter Tryz.func10, Tryz.ntmps10
    go_upto_region 1 with fail
    try rw [hw1]
    clear hw1
    go_wp2
    go_ret
    exact ⟨rfl, HB1⟩
  · have h := of_decide_eq_true Hd.out
    have H := hide_ h
    clear h Hd
    go_enter Tryz.func10, Tryz.ntmps10
    go_upto_region 1 with fail
    try rw [hw1]
    clear hw1
    rcases H.out with h | h | h | h | h | h | h | h | h | h <;> (rw [h] at i0; clear H h; go_wp2; go_ret; exact ⟨rfl, HB1⟩)
theorem COwn.capM {w : World} {B : Nat} {a : Option Addr} {n c : Nat} {l : List In} (h : COwn w B (.slice a n c) l) : c ≤ 9223372036854775807 := by
  by_cases h0 : 0 < l.length
  · obtain ⟨g', cap', ys, e, hb, hn, hm, -⟩ := ownS_blk h h0
    injection e with _ _ e
    unfold maxLen at hm
    omega
  · rcases h.2 with ⟨e, -⟩ | ⟨g, cap, cur, e, -, -, -, hm, -⟩
    · injection e with _ _ e; omega
    · injection e with _ _ e
      unfold maxLen at hm
      omega
theorem getIn {l : List In} {i : Nat} (h : i < l.length) : l[i]? = some (inA l i) := by
  rw [List.getElem?_eq_getElem h]
  simp [inA, List.getD, h]
def RgQ (D : List In) (n t a j : Nat) : Prop :=
  (jmp D t = false ∧ j = 0 ∧ a = t) ∨ ((∀ m, itJ D m t < n ∧ jmp D (itJ D m t) = true) ∧ ((j ≤ n ∧ a = itJ D j t) ∨ (j = n + 1 ∧ a = t)))
theorem RgQ.start {D : List In} {n t : Nat} (h : jmp D t = false ∨ ∀ m, itJ D m t < n ∧ jmp D (itJ D m t) = true) : RgQ D n t t 0 := by
  rcases h with h | h
  · exact .inl ⟨h, rfl, rfl⟩
  · exact .inr ⟨h, .inl ⟨Nat.zero_le _, rfl⟩⟩
theorem RgQ.out {D : List In} {n t a j : Nat} (h : RgQ D n t a j) (h2 : jmp D a = false ∨ n < j) : a = t := by
  rcases h with ⟨-, -, h⟩ | ⟨h, ⟨h3, h4⟩ | ⟨-, h4⟩⟩
  · exact h
  · rcases h2 with h2 | h2
    · rw [h4, (h j).2] at h2; cases h2
    · omega
  · exact h4
theorem RgQ.go {D : List In} {n t a j : Nat} (h : RgQ D n t a j) (h2 : jmp D a = true) (h3 : j < n) : RgQ D n t (nxJ D a) (j + 1) ∧ nxJ D a < n := by
  rcases h with ⟨h, -, rfl⟩ | ⟨h, ⟨-, h4⟩ | ⟨h4, -⟩⟩
  · rw [h] at h2; cases h2
  · have e : nxJ D a = itJ D (j + 1) t := by rw [itJ_succ, h4]
    exact ⟨.inr ⟨h, .inl ⟨h3, e⟩⟩, by rw [e]; exact (h _).1⟩
  · omega
theorem RgQ.last {D : List In} {n t a j : Nat} (h : RgQ D n t a j) (h2 : jmp D a = true) (h3 : j = n) : RgQ D n t t (j + 1) := by
  rcases h with ⟨h, -, rfl⟩ | ⟨h, -⟩
  · rw [h] at h2; cases h2
  · exact .inr ⟨h, .inr ⟨by omega, rfl⟩⟩
set_option maxRecDepth 100000 in
set_option maxHeartbeats 16000000 in
theorem fthreaded_any (en : Bool) (a0 b0 : Option Addr) (c0 d0 : Nat) (P0 : List In) (E0 : List Int) (w : World) (hnil : a0 = none → c0 = 0) (h : Hid (PgI w a0 b0 c0 d0 P0 E0)) :
    Calls Tryz.prog 3 #[.agg #[.bool en, .slice a0 P0.length c0, .slice b0 E0.length d0]] w fun e w' => e = .returned (.bool true) ∧ Below w.heap.size w w' := by
  obtain ⟨C, hC⟩ : ∃ C, P0.take 300 = C := ⟨_, rfl⟩
  obtain ⟨E, hE⟩ : ∃ E, E0.take 60 = E := ⟨_, rfl⟩
  obtain ⟨n, hn⟩ : ∃ n, C.length = n := ⟨_, rfl⟩
  obtain ⟨m, hm⟩ : ∃ m, E.length = m := ⟨_, rfl⟩
  have hn300 : n ≤ 300 := by rw [← hn, ← hC, List.length_take]; omega
  have hm60 : m ≤ 60 := by rw [← hm, ← hE, List.length_take]; omega
  have hPg : PgI w a0 b0 c0 d0 C E := by rw [← hC, ← hE]; exact h.out.take 300 60
  have HPg := hide_ hPg
  obtain ⟨w1, hw1⟩ : ∃ wx, w.alloc (.cells #[.bool en, .slice a0 P0.length c0, .slice b0 E0.length d0] 25) = wx := ⟨_, rfl⟩
  have HB1 : Hid (Below w.heap.size w w1) := hide_ (by rw [← hw1]; exact below1 _ _)
  have HP1 : Hid (Blk w1 w.heap.size 25 [.bool en, .slice a0 P0.length c0, .slice b0 E0.length d0]) := hide_ (by rw [← hw1]; exact Blk.newA w _ _)
  have HAw := hide_ (awake18_any w1)
  have HCu : Hid (∀ w2, Below w.heap.size w w2 → Calls Tryz.prog 5 #[.agg #[.bool en, .slice a0 P0.length c0, .slice b0 E0.length d0]] w2 fun e w' => e = .returned (.agg #[.bool en, .slice a0 n c0, .slice b0 m d0]) ∧ Hid (Below w2.heap.size w2 w')) := hide_ (fun w2 hB => by
    have h1 := cut18_any en a0 b0 c0 d0 P0 E0 w2 (h.out.later hB)
    rw [hC, hE, hn, hm] at h1
    exact h1)
  have HTh : Hid (∀ w2, Below w.heap.size w w2 → Calls Tryz.prog 6 #[.agg #[.bool en, .slice a0 n c0, .slice b0 m d0]] w2 fun e w' => ThTo w2 en C E e w') := hide_ (fun w2 hB => by
    have h1 := thread_any en a0 b0 c0 d0 C E w2 hnil (hide_ (hPg.later hB))
    rw [hn, hm] at h1
    exact h1)
  obtain ⟨K, hK⟩ : ∃ K, vfP en C E = K := ⟨_, rfl⟩
  have HVe : Hid (∀ w2, Below w.heap.size w w2 → Calls Tryz.prog 7 #[.agg #[.bool en, .slice a0 n c0, .slice b0 m d0]] w2 fun e w' => e = .returned (.agg #[.int .i64 K.1, .int .i64 K.2]) ∧ Hid (Below w2.heap.size w2 w')) := hide_ (fun w2 hB => by
    have h1 := (hPg.later hB).verify en
    rw [hn, hm, hK] at h1
    exact h1)
  have Hn := hide_ hn
  have Hm := hide_ hm
  have HK := hide_ hK
  clear hC hE hn hm hPg hK h
  go_enter Tryz.func3, Tryz.ntmps3
  go_upto_region 1 with fail
  try rw [hw1]
  clear hw1
  go_wp2_with fail
  refine HAw.out.mono ?_
  rintro e w2 ⟨rfl, hB2⟩
  have HB2 := hide_ (below_to HB1.out hB2)
  have HCu2 := hide_ (HCu.out w2 HB2.out)
  have p0 := (HP1.out.later hB2).cell 0; have p1 := (HP1.out.later hB2).cell 1; have p2 := (HP1.out.later hB2).cell 2
  simp at p0 p1 p2
  clear hB2 HAw HB1 HP1 HCu
  go_wp2_with fail
  refine HCu2.out.mono ?_
  rintro e w3 ⟨rfl, HB3⟩
  obtain ⟨w4, hw4⟩ : ∃ wx, w3.alloc (.cells #[.bool en, .slice a0 n c0, .slice b0 m d0] 25) = wx := ⟨_, rfl⟩
  have hB4 : Below w3.heap.size w3 w4 := by rw [← hw4]; exact below1 _ _
  have HP4 : Hid (Blk w4 w3.heap.size 25 [.bool en, .slice a0 n c0, .slice b0 m d0]) := hide_ (by rw [← hw4]; exact Blk.newA _ _ _)
  have HB4 := hide_ (below_to (below_to HB2.out HB3.out) hB4)
  have HTh4 := hide_ (HTh.out w4 HB4.out)
  clear p0 p1 p2 HCu2 hB4 HB2 HB3 HTh
  go_upto_region 4 with fail
  try rw [hw4]
  clear hw4
  obtain ⟨b7, hb7⟩ : ∃ b7, w3.heap.size = b7 := ⟨_, rfl⟩
  rw [hb7] at HP4
  try rw [hb7]
  clear hb7
  have p0 := HP4.out.cell 0; have p1 := HP4.out.cell 1; have p2 := HP4.out.cell 2
  simp at p0 p1 p2
  go_wp2_with fail
  refine HTh4.out.mono ?_
  rintro e w5 hT
  have HQ : Hid (Below w4.heap.size w4 w5 ∧ ∃ eq aq nq cq az nz cz, e = .returned (.tuple #[.agg #[.bool eq, .slice aq nq cq, .slice az nz cz], .agg #[.int .i64 K.1, .int .i64 K.2]]) ∧ ((K.1 ≠ 0 ∧ nq = 0 ∧ nz = 0) ∨ (K = (0, 0) ∧ eq = en ∧ nq = n ∧ nz = m ∧ Chk en C E ∧ (aq = none → cq = 0) ∧ PgI w5 aq az cq cz (thC C) (thE C E)))) := hide_ (by
    obtain ⟨hB, ⟨h1, rfl⟩ | ⟨h1, h2, vC, vE, rfl, hO, hI⟩⟩ := hT
    · rw [HK.out] at h1
      refine ⟨hB, false, none, 0, 0, none, 0, 0, by rw [HK.out], .inl ⟨h1, rfl, rfl⟩⟩
    · obtain ⟨aq, cq, rfl, hl1, hn1, hrq⟩ := hO.row
      obtain ⟨az, cz, rfl, hrz, -, hl2⟩ := hI.row
      have hcap := hO.capM
      rw [HK.out] at h1
      have hnn := Hn.out
      have hmm := Hm.out
      exact ⟨hB, en, aq, _, cq, az, _, cz, by rw [h1], .inr ⟨h1, rfl, by rw [thC_len, Hn.out], by rw [thE_len, Hm.out], h2, hn1, ⟨hl1, hcap, by rw [thC_len]; omega, hl2, by rw [thE_len]; omega, hrq, hrz⟩⟩⟩)
  clear hT
  obtain ⟨hB5, eq, aq, nq, cq, az, nz, cz, rfl, hQ⟩ := HQ.out
  have HQ2 := hide_ hQ
  go_upto_region 5 with fail
  obtain ⟨w6, hw6⟩ : ∃ wx, (w5.alloc (.cells #[.bool eq, .slice aq nq cq, .slice az nz cz] 25)).alloc (.cells #[.int .i64 K.1, .int .i64 K.2] 30) = wx := ⟨_, rfl⟩
  have hB6 : Below w5.heap.size w5 w6 := by rw [← hw6]; exact below2 _ _ _
  obtain ⟨kq, kf⟩ := blk2 w5 #[.bool eq, .slice aq nq cq, .slice az nz cz] #[.int .i64 K.1, .int .i64 K.2] 25 30
  rw [hw6] at kq kf
  have hB46 := below_to hB5 hB6
  have HP6 := hide_ (HP4.out.later hB46)
  have HQ6 := hide_ kq
  have HF6 := hide_ kf
  have HB6 := hide_ (below_to HB4.out hB46)
  have HB56 := hide_ hB6
  try rw [hw6]
  clear hw6 kq kf hB6 hB46 hB5 hQ HQ HTh4 HP4 HB4 p0 p1 p2
  obtain ⟨b8, hb8⟩ : ∃ b8, w5.heap.size = b8 := ⟨_, rfl⟩
  rw [hb8] at HQ6 HF6
  try rw [hb8]
  clear hb8
  have HV6 := hide_ (HVe.out w6.drew (below_to HB6.out ((Below.refl w6.heap.size w6).drew)))
  have HS6 : Hid (∀ w', Below w6.heap.size w6 w' → w'.cell? ⟨b7, 0, none⟩ = some (.bool en) ∧ w'.cell? ⟨b7, 1, none⟩ = some (.slice a0 n c0) ∧ w'.cell? ⟨b7, 2, none⟩ = some (.slice b0 m d0) ∧ w'.cell? ⟨b8 + 1, 0, none⟩ = some (.int .i64 K.1) ∧ w'.cell? ⟨b8 + 1, 1, none⟩ = some (.int .i64 K.2)) := hide_ (fun w' hB => by
    have h1 := (HP6.out.later hB).cell 0; have h2 := (HP6.out.later hB).cell 1; have h3 := (HP6.out.later hB).cell 2
    have h4 := (HF6.out.later hB).cell 0; have h5 := (HF6.out.later hB).cell 1
    simp at h1 h2 h3 h4 h5
    exact ⟨h1, h2, h3, h4, h5⟩)
  refine wp_region_last 3 (fun w' => w'.cell? ⟨b7, 0, none⟩ = some (.bool en) ∧ w'.cell? ⟨b7, 1, none⟩ = some (.slice a0 n c0) ∧ w'.cell? ⟨b7, 2, none⟩ = some (.slice b0 m d0) ∧ w'.cell? ⟨b8 + 1, 0, none⟩ = some (.int .i64 K.1) ∧ w'.cell? ⟨b8 + 1, 1, none⟩ = some (.int .i64 K.2)) (by kernel_rfl) (HS6.out _ ((Below.refl w6.heap.size w6).drew)) (fun hHeld => ?_)
  refine wpAnyF_take [3, 1] (by kernel_rfl) (i := 0) (v := ?va1) rfl (by kernel_rfl) (by kernel_rfl) (by kernel_rfl) (fun _ _ _ h => h) (Or.inl ⟨by kernel_rfl, ?hya1⟩) hHeld ?resta1
  case hya1 => intro w' hSw; (try dsimp only at hSw); go_simp; try with_reducible rfl
  simp only [Act.put]
  try dsimp only
  refine wpAnyF_take [3] (by kernel_rfl) (i := 2) (v := ?va2) rfl (by kernel_rfl) (by kernel_rfl) (by kernel_rfl) (fun _ _ _ h => h) (Or.inl ⟨by kernel_rfl, ?hya2⟩) hHeld ?resta2
  case hya2 => intro w' hSw; (try dsimp only at hSw); go_simp; try with_reducible rfl
  simp only [Act.put]
  try dsimp only
  refine wpAnyF_ready (rs := [1]) (by kernel_rfl) (by simp) ?_
  refine AllReadyF.cons rfl (fun K hK => ?_) AllReadyF.nil
  go_simp
  refine HV6.out.mono ?_
  rintro e w7 ⟨rfl, HB7⟩
  dsimp only
  refine hK.out _ _ (HS6.out _ (below_to ((Below.refl w6.heap.size w6).drew) HB7.out)) (fun hHeld => ?_)
  clear hK K
  refine wpAnyF_ready (rs := [3]) (by kernel_rfl) (by simp) ?_
  refine AllReadyF.last rfl (fun K hK => ?_)
  go_simp
  refine hK.out _ _ ?_
  clear hK K
  refine wpAnyF_done (by kernel_rfl) ?_ _
  have hB7 := below_to ((Below.refl w6.heap.size w6).drew) HB7.out
  have HP7 := hide_ (HP6.out.later hB7)
  have HQ7 := hide_ (HQ6.out.later hB7)
  have HF7 := hide_ (HF6.out.later hB7)
  have HBw7 := hide_ (below_to HB6.out hB7)
  have HB57 := hide_ (below_to HB56.out hB7)
  have x0 := HF7.out.cell 0
  have q0 := HQ7.out.cell 0; have q1 := HQ7.out.cell 1; have q2 := HQ7.out.cell 2
  simp at x0 q0 q1 q2
  clear hB7 HS6 HV6 HP6 HQ6 HF6 HB6 HB56 HB7
  by_cases hz : K.1 = 0
  · obtain ⟨hK, rfl, rfl, rfl, hCk, hnq, hPq⟩ : K = (0, 0) ∧ eq = en ∧ nq = n ∧ nz = m ∧ Chk en C E ∧ (aq = none → cq = 0) ∧ PgI w5 aq az cq cz (thC C) (thE C E) := by
      rcases HQ2.out with ⟨h1, -⟩ | h1
      · exact absurd hz h1
      · exact h1
    rw [hz] at x0
    have HCk := hide_ hCk
    have HK0 : Hid (vfP eq C E = (0, 0)) := hide_ (by rw [HK.out]; exact hK)
    obtain ⟨D, hD⟩ : ∃ D, thC C = D := ⟨_, rfl⟩
    obtain ⟨G, hG⟩ : ∃ G, thE C E = G := ⟨_, rfl⟩
    obtain ⟨ht1, ht2⟩ := thr_twice hCk
    have hDn : D.length = nq := by rw [← hD, thC_len]; exact Hn.out
    have hGm : G.length = nz := by rw [← hG, thE_len]; exact Hm.out
    have hv2 : vfP eq D G = (0, 0) := by rw [← hD, ← hG]; exact (vf_zero (thr_ok hCk (by rw [HK0.out]))).2
    rw [hD, hG] at hPq
    rw [hD] at ht1 ht2
    rw [hG] at ht2
    have HPx : Hid (∀ w', Below w7.heap.size w7 w' → Blk w' b7 25 [.bool eq, .slice a0 nq c0, .slice b0 nz d0]) := hide_ (fun w' hB => HP7.out.later hB)
    have HQx : Hid (∀ w', Below w7.heap.size w7 w' → Blk w' b8 25 [.bool eq, .slice aq nq cq, .slice az nz cz]) := hide_ (fun w' hB => HQ7.out.later hB)
    have HPq : Hid (∀ w', Below w7.heap.size w7 w' → PgI w' aq az cq cz D G) := hide_ (fun w' hB => (hPq.later HB57.out).later hB)
    have HCx : Hid (∀ w', Below w7.heap.size w7 w' → IRow w' a0 C) := hide_ (fun w' hB => ((HPg.out.later HBw7.out).later hB).hr)
    have HBx : Hid (∀ w', Below w7.heap.size w7 w' → Below w.heap.size w w') := hide_ (fun w' hB => below_to HBw7.out hB)
    have HT9 : Hid (Calls Tryz.prog 6 #[.agg #[.bool eq, .slice aq nq cq, .slice az nz cz]] w7 fun e w' => Hid (Below w7.heap.size w7 w') ∧ ∃ ar cr sa cs, e = .returned (.tuple #[.agg #[.bool eq, .slice ar nq cr, .slice sa nz cs], .agg #[.int .i64 0, .int .i64 0]]) ∧ Hid (IRow w' ar D ∧ Row .i64 w' sa G)) := hide_ (by
      have h1 := thread_any eq aq az cq cz D G w7 hnq (hide_ (HPq.out w7 (Below.refl _ _)))
      rw [hDn, hGm] at h1
      refine h1.mono ?_
      rintro e w' ⟨hB, ⟨h2, -⟩ | ⟨-, -, vC, vE, rfl, hO, hI⟩⟩
      · rw [hv2] at h2; exact absurd rfl h2
      · rw [ht1] at hO
        rw [ht2] at hI
        obtain ⟨ar, cr, rfl, -, -, hr1⟩ := hO.row
        obtain ⟨sa, cs, rfl, hr2, -, -⟩ := hI.row
        rw [hDn, hGm]
        exact ⟨hide_ hB, ar, cr, sa, cs, rfl, hide_ ⟨hr1, hr2⟩⟩)
    have HV9 : Hid (∀ w', Below w7.heap.size w7 w' → Calls Tryz.prog 7 #[.agg #[.bool eq, .slice aq nq cq, .slice az nz cz]] w' fun e w'' => e = .returned (.agg #[.int .i64 0, .int .i64 0]) ∧ Hid (Below w'.heap.size w' w'')) := hide_ (fun w' hB => by
      have h1 := (HPq.out w' hB).verify eq
      rw [hDn, hGm, hv2] at h1
      exact h1)
    have HSm : Hid (∀ (w' : World) (ar sa : Option Addr) (cr cs : Nat), Below w7.heap.size w7 w' → IRow w' ar D → Row .i64 w' sa G → Calls Tryz.prog 9 #[.agg #[.bool eq, .slice ar nq cr, .slice sa nz cs], .agg #[.bool eq, .slice aq nq cq, .slice az nz cz]] w' fun e w'' => e = .returned (.bool true) ∧ Hid (Below w'.heap.size w' w'')) := hide_ (fun w' ar sa cr cs hB h1 h2 => by
      have h3 := HPq.out w' hB
      have h4 := rsame18_any eq eq ar aq sa az cr cq cs cz D D G G w' (by omega) (by omega) (by omega) (by omega) (hide_ h1) (hide_ h3.hr) (hide_ h2) (hide_ h3.he)
      rw [hDn, hGm, eqP_iff.2 ⟨rfl, rfl, rfl⟩] at h4
      exact h4.mono (by rintro e w'' ⟨h5, h6⟩; exact ⟨h5, hide_ h6⟩))
    have HD := hide_ hD
    have HDn := hide_ hDn
    clear hz hK hCk hnq hPq hD hG ht1 ht2 hDn hGm hv2 HQ2 HB57 HF7 HP7 HQ7
    go_wp2_with fail
    refine HT9.out.mono ?_
    rintro e w8 ⟨HB8, ar, cr, sa, cs, rfl, HR8⟩
    go_upto_region 10 with fail
    obtain ⟨w9, hw9⟩ : ∃ wx, (w8.alloc (.cells #[.bool eq, .slice ar nq cr, .slice sa nz cs] 25)).alloc (.cells #[.int .i64 0, .int .i64 0] 30) = wx := ⟨_, rfl⟩
    have hB9 : Below w8.heap.size w8 w9 := by rw [← hw9]; exact below2 _ _ _
    obtain ⟨kr, kf⟩ := blk2 w8 #[.bool eq, .slice ar nq cr, .slice sa nz cs] #[.int .i64 0, .int .i64 0] 25 30
    rw [hw9] at kr kf
    have HR9 := hide_ kr
    have HB9 := hide_ (below_to HB8.out hB9)
    have HRr9 : Hid (IRow w9 ar D ∧ Row .i64 w9 sa G) := hide_ ⟨HR8.out.1.later hB9, HR8.out.2.later hB9⟩
    have y0 := kf.cell 0
    simp at y0
    try rw [hw9]
    clear hw9 kr kf hB9 HT9 HB8 HR8 x0 q0 q1 q2
    obtain ⟨b9, hb9⟩ : ∃ b9, w8.heap.size = b9 := ⟨_, rfl⟩
    rw [hb9] at HR9 y0
    try rw [hb9]
    clear hb9
    have HV10 := hide_ (HV9.out w9 HB9.out)
    have q0 := (HQx.out w9 HB9.out).cell 0; have q1 := (HQx.out w9 HB9.out).cell 1; have q2 := (HQx.out w9 HB9.out).cell 2
    simp at q0 q1 q2
    clear HV9
    go_wp2_with (first
      | (go_at_call 8; refine (num_any _ _).mono ?_; rintro e wn ⟨rfl, rfl⟩)
      | fail)
    refine HV10.out.mono ?_
    rintro e w10 ⟨rfl, HB10⟩
    have HBx10 := hide_ (below_to HB9.out HB10.out)
    have HSm10 := hide_ (HSm.out w10 ar sa cr cs HBx10.out (HRr9.out.1.later HB10.out) (HRr9.out.2.later HB10.out))
    have HR10 := hide_ (HR9.out.later HB10.out)
    have r0 := HR10.out.cell 0; have r1 := HR10.out.cell 1; have r2 := HR10.out.cell 2
    simp at r0 r1 r2
    have s0 := (HQx.out w10 HBx10.out).cell 0; have s1 := (HQx.out w10 HBx10.out).cell 1; have s2 := (HQx.out w10 HBx10.out).cell 2
    simp at s0 s1 s2
    clear q0 q1 q2 y0 HV10 HB9 HB10 HR9 HRr9 HSm HR10
    go_wp2_with fail
    refine HSm10.out.mono ?_
    rintro e w11 ⟨rfl, HB11⟩
    have HB12 := hide_ (below_to HBx10.out HB11.out)
    have p0 := (HPx.out w11 HB12.out).cell 0; have p1 := (HPx.out w11 HB12.out).cell 1; have p2 := (HPx.out w11 HB12.out).cell 2
    have q0 := (HQx.out w11 HB12.out).cell 0; have q1 := (HQx.out w11 HB12.out).cell 1; have q2 := (HQx.out w11 HB12.out).cell 2
    simp at p0 p1 p2 q0 q1 q2
    clear r0 r1 r2 s0 s1 s2 HSm10 HB11 HBx10
    go_wp2_with fail
    clear p0 p1 p2 q0 q1 q2
    go_loopw [8] (fun x8 wr => ∃ i : Nat, i ≤ nq ∧ x8 = .int .i64 (i : Int) ∧ Hid (Below w7.heap.size w7 wr)) (fun x8 _ => nq - (intOf x8).toNat)
    case atStart => exact ⟨0, Nat.zero_le _, rfl, HB12⟩
    case round =>
      clear HB12
      obtain ⟨i, hi, rfl, HBq⟩ := hrel
      generalize wr = wq at *
      have q1 := (HQx.out wq HBq.out).cell 1
      simp at q1
      by_cases hlt : i < nq
      · have hlt' : (i : Int) < (nq : Int) := by omega
        have hiC : i < C.length := by rw [Hn.out]; exact hlt
        have hiD : i < D.length := by rw [HDn.out]; exact hlt
        obtain ⟨y, hy⟩ : ∃ y, inA C i = y := ⟨_, rfl⟩
        have hx : D[i]? = some (thI C y) := by rw [getIn hiD, ← HD.out, thC_at hiC, hy]
        have hy2 : C[i]? = some y := by rw [getIn hiC, hy]
        obtain ⟨e1, e2, e3, e4, e5⟩ := thI_ops C y
        have HTL : Hid (htP y.op = true → ∃ t : Nat, (thI C y).b = (t : Int) ∧ t < nq ∧ (jmp D t = false ∨ ∀ m, itJ D m t < nq ∧ jmp D (itJ D m t) = true)) := hide_ (fun h => by
          have h1 := thr_law HCk.out hiC (by rw [hy]; exact h)
          rw [thC_at hiC, hy, HD.out, Hn.out] at h1
          exact h1)
        have HXY : Hid (htP y.op = false → (thI C y).b = y.b) := hide_ e4
        generalize thI C y = x at *
        have He1 := hide_ e1
        have He2 := hide_ e2
        have He3 := hide_ e3
        clear e1 e2 e3
        have hrq := (HPq.out wq HBq.out).hr
        obtain ⟨bd, od, had, -⟩ := (hrq).open (by omega)
        subst had
        obtain ⟨i0, i1, i2, i3⟩ := (hrq).at hx
        clear hrq
        obtain ⟨w13, hw13⟩ : ∃ wx, wq.alloc (.cells #[.int .i64 x.op, .int .i64 x.a, .int .i64 x.b, .int .i64 x.c] 37) = wx := ⟨_, rfl⟩
        have hB13 : Below wq.heap.size wq w13 := by rw [← hw13]; exact below1 _ _
        have HX13 : Hid (Blk w13 wq.heap.size 37 (inc x)) := hide_ (by rw [← hw13]; exact Blk.newA wq _ _)
        have HB13 := hide_ (below_to HBq.out hB13)
        clear hx hy e4 e5 hB13 HBq
        go_upto_region 16 with fail
        try rw [hw13]
        clear hw13 i0 i1 i2 i3 q1
        obtain ⟨g9, hg9⟩ : ∃ g9, wq.heap.size = g9 := ⟨_, rfl⟩
        rw [hg9] at HX13
        try rw [hg9]
        clear hg9
        have p1 := (HPx.out w13 HB13.out).cell 1
        simp at p1
        obtain ⟨bc, oc, hac, -⟩ := (HCx.out w13 HB13.out).open (by omega)
        subst hac
        obtain ⟨i0, i1, i2, i3⟩ := (HCx.out w13 HB13.out).at hy2
        obtain ⟨w14, hw14⟩ : ∃ wx, w13.alloc (.cells #[.int .i64 y.op, .int .i64 y.a, .int .i64 y.b, .int .i64 y.c] 37) = wx := ⟨_, rfl⟩
        have hB14 : Below w13.heap.size w13 w14 := by rw [← hw14]; exact below1 _ _
        have HY14 : Hid (Blk w14 w13.heap.size 37 (inc y)) := hide_ (by rw [← hw14]; exact Blk.newA w13 _ _)
        have HX14 := hide_ (HX13.out.later hB14)
        have HB14 := hide_ (below_to HB13.out hB14)
        clear hy2 hB14 HB13 HX13
        go_upto_region 17 with fail
        try rw [hw14]
        clear hw14 i0 i1 i2 i3 p1
        obtain ⟨g10, hg10⟩ : ∃ g10, w13.heap.size = g10 := ⟨_, rfl⟩
        rw [hg10] at HY14
        try rw [hg10]
        clear hg10
        obtain ⟨k0, k1, k2, k3⟩ := HY14.out.ci
        have HT14 := hide_ (target18_any y w14)
        go_wp2_with fail
        refine HT14.out.mono ?_
        rintro e w15 ⟨rfl, HB15⟩
        have HX15 := hide_ (HX14.out.later HB15.out)
        have HY15 := hide_ (HY14.out.later HB15.out)
        have HBx15 := hide_ (below_to HB14.out HB15.out)
        clear k0 k1 k2 k3 HT14 HX14 HY14 HB14 HB15
        obtain ⟨x0, x1, x2, x3⟩ := HX15.out.ci
        obtain ⟨y0, y1, y2, y3⟩ := HY15.out.ci
        rw [He1.out] at x0
        rw [He2.out] at x1
        rw [He3.out] at x3
        obtain ⟨d, hd⟩ : ∃ d, htP y.op = d := ⟨_, rfl⟩
        rw [hd] at HTL HXY ⊢
        clear hd
        cases d
        · rw [HXY.out rfl] at x2
          clear HTL HXY
          go_wp2_with fail
          go_roundw
          case rel => exact ⟨i + 1, by omega, by go_num, HBx15⟩
          case measure => simp [intOf]; omega
        · obtain ⟨t, ht1, ht2, ht3⟩ := HTL.out rfl
          rw [ht1] at x2
          have HRg := hide_ (RgQ.start ht3)
          have q1 := (HQx.out w15 HBx15.out).cell 1
          simp at q1
          have f1 : decide ((t : Int) < 0) = false := decide_eq_false (by omega)
          have f2 : ((t : Int) < (nq : Int)) := by omega
          have f3 : ¬ ((nq : Int) ≤ (t : Int)) := by omega
          have f4 : decide ((nq : Int) ≤ (t : Int)) = false := decide_eq_false f3
          have Htx := hide_ ht1
          clear ht1 ht3 HTL HXY
          go_wp2_with fail
          clear x0 x1 x2 x3 y0 y1 y2 y3 q1 f1 f2 f3 f4 HY15
          go_loopw [11, 12] (fun x11 x12 wr => ∃ (a j : Nat), x11 = .int .i64 (a : Int) ∧ x12 = .int .i64 (j : Int) ∧ j ≤ nq + 1 ∧ a < nq ∧ Hid (RgQ D nq t a j) ∧ Hid (Below w15.heap.size w15 wr)) (fun _ x12 _ => nq + 2 - (intOf x12).toNat)
          case atStart => exact ⟨t, 0, rfl, rfl, by omega, ht2, HRg, hide_ (Below.refl _ _)⟩
          case round =>
            clear HRg
            obtain ⟨a, j, rfl, rfl, hj, ha, HRj, HBj⟩ := hrel
            generalize wr = wp at *
            have HBp := hide_ (below_to HBx15.out HBj.out)
            have HXp := hide_ (HX15.out.later HBj.out)
            obtain ⟨x0, x1, x2, x3⟩ := HXp.out.ci
            rw [Htx.out] at x2
            have q1 := (HQx.out wp HBp.out).cell 1
            simp at q1
            have haD : a < D.length := by rw [HDn.out]; exact ha
            have ha' : (a : Int) < (nq : Int) := by omega
            have hz2 : D[a]? = some (inA D a) := getIn haD
            have hrq := (HPq.out wp HBp.out).hr
            obtain ⟨i0, i1, i2, i3⟩ := (hrq).at hz2
            clear hrq
            obtain ⟨zo, hzo⟩ : ∃ zo, (inA D a).op = zo := ⟨_, rfl⟩
            rw [hzo] at i0
            by_cases hjn : j ≤ nq
            · have f1 : decide ((j : Int) ≤ (nq : Int)) = true := decide_eq_true (by omega)
              have f1' : (j : Int) ≤ (nq : Int) := by omega
              by_cases h19 : zo = 19
              · have f0 : (zo == 19) = true := by simpa using h19
                have hjm : jmp D a = true := by unfold jmp; rw [hzo]; exact decide_eq_true h19
                have hK' := thr_chk HCk.out
                rw [HD.out] at hK'
                have htg := chk_tgt hK' haD (by unfold htP; rw [hzo, h19]; rfl)
                have hb : (inA D a).b = ((nxJ D a : Nat) : Int) := by unfold nxJ; omega
                rw [hb] at i2
                by_cases hjl : j = nq
                · have g0 : ((j : Int) == (nq : Int)) = true := by simp; omega
                  clear h19 hjm hK' htg hb hz2 haD HRj hzo
                  go_wp2_with fail
                  go_roundw
                  case rel => exact ⟨i + 1, by omega, by go_num, HBp⟩
                  case measure => simp [intOf]; omega
                · obtain ⟨hg, hzn⟩ := HRj.out.go hjm (by omega)
                  have HN := hide_ hg
                  have g0 : ((j : Int) == (nq : Int)) = false := by simp; omega
                  clear h19 hjm hK' htg hb hz2 haD HRj hg hzo
                  go_wp2_with fail
                  go_roundw
                  case rel => exact ⟨nxJ D a, j + 1, rfl, by go_num, by omega, hzn, HN, HBj⟩
                  case measure => simp [intOf]; omega
              · have f0 : (zo == 19) = false := by simpa using h19
                have hat : a = t := HRj.out.out (.inl (by unfold jmp; rw [hzo]; exact decide_eq_false h19))
                clear h19 hz2 haD HRj hzo
                subst hat
                go_wp2_with fail
                go_roundw
                case rel => exact ⟨i + 1, by omega, by go_num, HBp⟩
                case measure => simp [intOf]; omega
            · have f1 : decide ((j : Int) ≤ (nq : Int)) = false := decide_eq_false (by omega)
              have f1' : ¬ (j : Int) ≤ (nq : Int) := by omega
              have hat : a = t := HRj.out.out (.inr (by omega))
              clear hz2 haD HRj hzo
              subst hat
              go_wp2_with fail
              go_roundw
              case rel => exact ⟨i + 1, by omega, by go_num, HBp⟩
              case measure => simp [intOf]; omega
      · have ei : i = nq := by omega
        subst ei
        go_wp2_with fail
        go_ret
        exact ⟨by first | rfl | simp, HBx.out _ HBq.out⟩
  · have fz : (K.1 == 0) = false := by simpa using hz
    have fz2 : (K.1 != 0) = true := by simpa using hz
    obtain ⟨rfl, rfl⟩ : nq = 0 ∧ nz = 0 := by
      rcases HQ2.out with ⟨-, h⟩ | ⟨h, -⟩
      · exact h
      · exact absurd (by rw [h]) hz
    clear hz
    go_wp2_with fail
    go_ret
    exact ⟨by first | rfl | simp, HBw7.out⟩
end Go.Proofs.YtjamfbpdepahnaaGreat
