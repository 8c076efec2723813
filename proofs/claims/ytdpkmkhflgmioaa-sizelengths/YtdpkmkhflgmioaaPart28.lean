import Derived.Test.YtdpkmkhflgmioaaPart27
import Derived.Test.YtdpkmkhflgmioaaPart16
import Derived.Laws.Closers25b

/- SizeLengths: its walk. -/
namespace Go.Proofs.Ytdpkmkhflgmioaa
open Go.RowKit
set_option linter.unusedVariables false

theorem min_ifN (n m : Nat) (h : min n 600 = m) : (if (600 : Int) < (n : Int) then (600 : Int) else (n : Int)) = (m : Int) := by split <;> omega
theorem min_ifN2 (n m : Nat) (h : min n 600 = m) : (if 600 < n then (600 : Int) else (n : Int)) = (m : Int) := by split <;> omega
theorem lenP_le (T : List Ty) (R : List Rt) (t : Int) (V : List Nv) : (lenP T R t V).2.length ≤ V.length := by
  unfold lenP
  split
  · simp
  split
  · simp
  unfold lenM
  split
  · rename_i r hr
    split
    · simp
    · exact (nxP_len _ _ _ _ (Nat.zero_le _) hr).2
  · simp
theorem lenP_err {T : List Ty} {R : List Rt} {t : Int} {V : List Nv} (h : (lenP T R t V).1 ≠ 0) : (lenP T R t V).2 = [] := by
  unfold lenP at h ⊢
  split
  · rfl
  rename_i hc
  rw [if_neg hc] at h
  split
  · rfl
  rename_i hc
  rw [if_neg hc] at h
  unfold lenM at h ⊢
  split
  · rename_i r hr
    rw [hr] at h
    simp only at h
    split
    · rfl
    · rename_i hl; rw [if_neg hl] at h; simp at h
  · rfl
set_option maxRecDepth 100000 in
set_option maxHeartbeats 16000000 in
theorem slengths_any (aT : Option Addr) (cT : Nat) (T : List Ty) (aR : Option Addr) (cR : Nat) (R : List Rt) (t : Int) (aN : Option Addr) (cN : Nat) (N : List Nv) (w : World) (hn : T.length ≤ 1000000000000000) (hm : R.length ≤ 1000000000000000) (hcR : R.length ≤ cR) (hnil : aR = none → cR = 0) (hl : Hid (LensT T)) (hT : Hid (TRow w aT T)) (hRr : Hid (RRow w aR R)) (hNl : N.length ≤ cN) (hNb : N.length ≤ 1000000000000000) (hNn : aN = none → cN = 0) (hNr : Hid (VRow w aN N)) (hNk : Hid (∀ x ∈ N, NvOk x)) :
    Calls Try.prog 4 #[.agg #[.slice aT T.length cT, .slice aR R.length cR], .int .i64 t, .slice aN N.length cN] w fun e w' => e = .returned (.bool true) ∧ Below w.heap.size w w' := by
  obtain ⟨w2, hw2⟩ : ∃ wx, wx = w.alloc (.cells #[.slice aT T.length cT, .slice aR R.length cR] 25) := ⟨_, rfl⟩
  have hB2 : Below w.heap.size w w2 := by rw [hw2]; exact below1 _ _
  have k1 : Blk w2 w.heap.size 25 [.slice aT T.length cT, .slice aR R.length cR] := by rw [hw2]; exact Blk.newA w _ _
  have K1 := hide_ k1
  have HB2 := hide_ hB2
  have HAw := hide_ (awake_any w2)
  clear k1 hB2
  go_enter Try.func4, Try.ntmps4
  go_upto_region 1 with fail
  rw [← hw2]
  clear hw2
  go_wp2_with fail
  refine HAw.out.mono ?_
  rintro e w3 ⟨rfl, hB3⟩
  have HB3 := hide_ (below_to HB2.out hB3)
  have k3 := K1.out.later hB3
  have i0 := k3.cell 0; have i1 := k3.cell 1
  simp at i0 i1
  have HCu := hide_ (cut_any aT cT T aR cR R w w3 hn hm hcR hnil hl HB3 hT (hide_ (hRr.out.later HB3.out)))
  clear hB3 HAw k3 K1
  go_wp2_with fail
  refine HCu.out.mono ?_
  rintro e w4 ⟨a7, c7, ar7, cr7, Q7, rfl, HT4, HQ7, HR4, HB4⟩
  have hTl : (cutT T).length ≤ 120 := by simp [cutT]; omega
  have hRl : (R.take 260).length ≤ 260 := by simp; omega
  have HLs : Hid (LensT (cutT T)) := hide_ (cutT_lens T)
  have HPs : Hid (∀ t ∈ cutT T, t.ps.length ≤ 1000000) := hide_ (fun t ht => by
    simp only [cutT, List.mem_map] at ht
    obtain ⟨u, _, rfl⟩ := ht
    simp [cut1]
    omega)
  generalize cutT T = U at *
  generalize R.take 260 = Rc at *
  have k5 := Blk.newA w4 #[.slice a7 U.length c7, .slice ar7 Rc.length cr7] 25
  have b5 := below1 w4 (.cells #[.slice a7 U.length c7, .slice ar7 Rc.length cr7] 25)
  obtain ⟨w5, hw5⟩ : ∃ wx, wx = w4.alloc (.cells #[.slice a7 U.length c7, .slice ar7 Rc.length cr7] 25) := ⟨_, rfl⟩
  rw [← hw5] at k5 b5
  have HB5 := hide_ (below_to HB3.out (below_to HB4.out b5))
  have KS := hide_ k5
  have HT5 := hide_ (HT4.out.later b5)
  have HR5 := hide_ (HR4.out.later b5)
  obtain ⟨m, hmm⟩ : ∃ m, min N.length 600 = m := ⟨_, rfl⟩
  have hmA := min_ifN N.length m hmm
  have hmB := min_ifN2 N.length m hmm
  have hml : m ≤ 600 := by omega
  have hmc : (m : Int) ≤ cN := by omega
  have hm0 : (0 : Int) ≤ m := by omega
  have hVl : (N.take 600).length = m := by rw [List.length_take]; omega
  have HNk : Hid (∀ x ∈ N.take 600, NvOk x) := hide_ (fun x hx => hNk.out x (List.mem_of_mem_take hx))
  have hVr : VRow w5 aN (N.take 600) := (hNr.out.later HB5.out).take 600
  generalize N.take 600 = V0 at *
  subst hVl
  obtain ⟨v6, w6, hr6, ho6, hb6⟩ := run_copyG (P := Try.prog) nvc_len nvc_one Try.underlying38 infoN rfl (by decide) w5 aN V0.length cN V0 rfl hVr hNn (by unfold maxLen; omega) (by omega)
  have HR6 := hide_ hr6
  have HV6 : Hid (NOwn w6 w5.heap.size v6 V0) := hide_ ho6
  have HB56 := hide_ hb6
  have HB6 := hide_ (below_to HB5.out hb6)
  obtain ⟨av, cv, ev, hVr6⟩ := HV6.out.row
  subst ev
  obtain ⟨g7, hg7⟩ : ∃ g, w4.heap.size = g := ⟨_, rfl⟩
  rw [hg7] at KS
  have KS6 := hide_ (KS.out.later hb6)
  have HT6 := hide_ (HT5.out.later hb6)
  have HR6r := hide_ (HR5.out.later hb6)
  have hvn6 : av = none → cv = 0 := by
    obtain ⟨a9', c9', e9', -, h9', -⟩ := own_grow nvc_len HV6.out
    injection e9' with e1 e2 e3
    intro h
    rw [e3]
    exact h9' (by rw [← e1]; exact h)
  have hrn6 : ar7 = none → cr7 = 0 := by
    obtain ⟨a9', c9', e9', -, h9', -⟩ := own_grow rtc_len HR6r.out
    injection e9' with e1 e2 e3
    intro h
    rw [e3]
    exact h9' (by rw [← e1]; exact h)
  have s0 := KS6.out.cell 0; have s1 := KS6.out.cell 1
  simp at s0 s1
  have HLe := hide_ (lent_any a7 c7 U ar7 cr7 Rc w6 (by omega) (by omega) hrn6 HPs (hide_ (town_row HT6.out HQ7.out)) (hide_ (rown_row HR6r.out)))
  clear k5 b5 hr6 ho6 hb6 hVr hVr6 i0 i1 HCu HT4 HR4
  go_upto_region 4 with fail
  rw [← hw5]
  clear hw5
  go_wp2_with (first | (at_builtin; refine wpList_append_run rfl (.const (.slice none 0 0)) (.tmp 28) 38 38 rfl rfl rfl HR6.out ?_; clear HR6) | fail)
  refine HLe.out.mono ?_
  rintro e w7 ⟨gT, cT7, Q, gR, cR7, rfl, HL7, HQL, HB7⟩
  have k8 := Blk.newA w7 #[.slice (some ⟨gT, 0, none⟩) U.length cT7, .slice (some ⟨gR, 0, none⟩) Rc.length cR7] 25
  have b8 := below1 w7 (.cells #[.slice (some ⟨gT, 0, none⟩) U.length cT7, .slice (some ⟨gR, 0, none⟩) Rc.length cR7] 25)
  obtain ⟨w8, hw8⟩ : ∃ wx, wx = w7.alloc (.cells #[.slice (some ⟨gT, 0, none⟩) U.length cT7, .slice (some ⟨gR, 0, none⟩) Rc.length cR7] 25) := ⟨_, rfl⟩
  rw [← hw8] at k8 b8
  obtain ⟨g9, hg9⟩ : ∃ g, w7.heap.size = g := ⟨_, rfl⟩
  rw [hg9] at k8
  have hb68 := below_to HB7.out b8
  have HV8 := hide_ (HV6.out.later hb68)
  have hvr8 : VRow w8 av V0 := by
    obtain ⟨a2, c2, e2, g2⟩ := HV8.out.row
    injection e2 with e2 _ _
    subst e2
    exact g2
  have HLn := hide_ (lentN_any av cv V0 w8 (hide_ hvr8) hvn6 (by omega))
  clear hvr8
  go_upto_region 6 with fail
  rw [← hw8]
  clear hw8
  go_wp2_with fail
  refine HLn.out.mono ?_
  rintro e w9 ⟨gV, cV, rfl, HN9, HC9, HB9⟩
  have hb69 := below_to hb68 HB9.out
  have HM9 : Hid (SzM w9 w.heap.size g7 g9 a7 c7 Q7 U ar7 cr7 Rc w5.heap.size av cv V0 w6.heap.size gT cT7 Q gR cR7 gV cV) := hide_ ⟨KS6.out.later hb69, k8.later HB9.out, HT6.out.later hb69, HR6r.out.later hb69, HV6.out.later hb69, (HL7.out.later b8).later HB9.out, own_base HN9.out hb68.size, fun k hk => (HV6.out.lt k hk).2⟩
  have HB9x := hide_ (below_to HB6.out hb69)
  have hzv : w.heap.size ≤ w5.heap.size := HB5.out.size
  have hzl : w.heap.size ≤ w6.heap.size := HB6.out.size
  obtain ⟨n, hnV⟩ : ∃ n, V0.length = n := ⟨_, rfl⟩
  have HV0n := hide_ hnV
  have hcV : n + 1 ≤ cV := by have := HC9.out; omega
  clear k8 b8 hb68 hb69 s0 s1 HLe HL7 HN9 KS6 HT6 HR6r HV6 KS HT5 HR5 HC9 HLn
  rw [hnV] at hml hmc hm0 ⊢
  clear hnV
  go_wp2_with fail
  go_loopw [11] (fun x11 wr => ∃ (i : Nat) (V : List Nv), i ≤ 2 ∧ x11 = .int .i64 (i : Int) ∧ Hid (V.length = n) ∧ Hid (∀ x ∈ V, NvOk x) ∧ Hid (SzM wr w.heap.size g7 g9 a7 c7 Q7 U ar7 cr7 Rc w5.heap.size av cv V w6.heap.size gT cT7 Q gR cR7 gV cV) ∧ Hid (Below w.heap.size w wr)) (fun x11 _ => 2 - (intOf x11).toNat)
  case atStart => exact ⟨0, V0, by omega, rfl, HV0n, HNk, HM9, HB9x⟩
  case round =>
    obtain ⟨i, V, hi, rfl, HVn, HNk1, HM, HB⟩ := hrel
    generalize wr = wq at *
    clear HM9 HB9x
    by_cases hlt : i < 2
    · have hlt' : (i : Int) < 2 := by omega
      have hvn := HVn.out
      subst hvn
      have HAll : Hid (∀ w', Below wq.heap.size wq w' → SzM w' w.heap.size g7 g9 a7 c7 Q7 U ar7 cr7 Rc w5.heap.size av cv V w6.heap.size gT cT7 Q gR cR7 gV cV) := hide_ (fun w' hb => HM.out.later hb)
      have HBx : Hid (∀ w', Below wq.heap.size wq w' → w'.cell? ⟨g9, 0, none⟩ = some (.slice (some ⟨gT, 0, none⟩) U.length cT7) ∧ w'.cell? ⟨g9, 1, none⟩ = some (.slice (some ⟨gR, 0, none⟩) Rc.length cR7) ∧ w'.cell? ⟨g7, 0, none⟩ = some (.slice a7 U.length c7) ∧ w'.cell? ⟨g7, 1, none⟩ = some (.slice ar7 Rc.length cr7)) := hide_ (fun w' hb => by
        have h := HAll.out w' hb
        have a0 := h.lbox.cell 0; have a1 := h.lbox.cell 1
        have b0 := h.sbox.cell 0; have b1 := h.sbox.cell 1
        simp at a0 a1 b0 b1
        exact ⟨a0, a1, b0, b1⟩)
      have HVr : Hid (∀ w', Below wq.heap.size wq w' → VRow w' (some ⟨gV, 0, none⟩) V ∧ TRow w' (some ⟨gT, 0, none⟩) U ∧ RRow w' (some ⟨gR, 0, none⟩) Rc ∧ VRow w' av V) := hide_ (fun w' hb => by
        have h := HAll.out w' hb
        obtain ⟨a2, c2, e2, -, -, g2⟩ := own_grow nvc_len h.no
        injection e2 with e2 _ _
        subst e2
        have g3 := g2.take V.length
        rw [List.take_left] at g3
        have hr := h.lt.row
        rw [HQL.out] at hr
        obtain ⟨a5, c5, e5, g5⟩ := h.vo.row
        injection e5 with e5 _ _
        subst e5
        exact ⟨g3, hr.1, hr.2, g5⟩)
      obtain ⟨A, hA⟩ : ∃ A, lenP U Rc t V = A := ⟨_, rfl⟩
      have HCl : Hid (∀ w', Below wq.heap.size wq w' → Calls Try.prog 12 #[.agg #[.slice (some ⟨gT, 0, none⟩) U.length cT7, .slice (some ⟨gR, 0, none⟩) Rc.length cR7], .int .i64 t, .slice (some ⟨gV, 0, none⟩) V.length cV] w' fun e w2 => ∃ v', e = .returned (.tuple #[v', .int .i64 A.1]) ∧ Hid (IOwn w2 w'.heap.size v' A.2) ∧ Hid (Below w'.heap.size w' w2)) := hide_ (fun w' hb => by
        obtain ⟨h1, h2, h3, -⟩ := HVr.out w' hb
        have h := lengths_any (some ⟨gT, 0, none⟩) cT7 U (some ⟨gR, 0, none⟩) cR7 Rc t (some ⟨gV, 0, none⟩) cV V w' (by omega) (by omega) (by omega) HNk1 HLs (hide_ h2) (hide_ h3) (hide_ h1)
        rw [hA] at h
        exact h.mono (fun e w2 ⟨v', q1, q2, q3⟩ => ⟨v', q1, hide_ q2, hide_ q3⟩))
      have HCr : Hid (∀ w', Below wq.heap.size wq w' → Calls Try.prog 17 #[.agg #[.slice a7 U.length c7, .slice ar7 Rc.length cr7], .int .i64 t, .slice av V.length cv] w' fun e w2 => ∃ v', e = .returned (.tuple #[v', .int .i64 A.1]) ∧ Hid (IOwn w2 w'.heap.size v' A.2) ∧ Hid (Below w'.heap.size w' w2)) := hide_ (fun w' hb => by
        have hx := HAll.out w' hb
        obtain ⟨-, -, -, g2⟩ := HVr.out w' hb
        have h := llen_any a7 c7 U ar7 cr7 Rc t av cv V w' (by omega) (by omega) (by omega) HLs (hide_ (town_row hx.tow HQ7.out)) (hide_ (rown_row hx.ro)) (hide_ g2) HNk1
        rw [hA] at h
        exact h.mono (fun e w2 ⟨v', q1, q2, q3⟩ => ⟨v', q1, hide_ q2, hide_ q3⟩))
      obtain ⟨L0, hL0⟩ : ∃ L0, (if A.1 = 0 then A.2.getD 0 0 else 0) = L0 := ⟨_, rfl⟩
      have HCn : Hid (∀ w', Below wq.heap.size wq w' → Calls Try.prog 13 #[.agg #[.slice (some ⟨gT, 0, none⟩) U.length cT7, .slice (some ⟨gR, 0, none⟩) Rc.length cR7], .int .i64 t, .slice (some ⟨gV, 0, none⟩) V.length cV] w' fun e w2 => e = .returned (.tuple #[.int .i64 L0, .int .i64 A.1]) ∧ Below w'.heap.size w' w2) := hide_ (fun w' hb => by
        obtain ⟨h1, h2, h3, -⟩ := HVr.out w' hb
        have h := length_any (some ⟨gT, 0, none⟩) cT7 U (some ⟨gR, 0, none⟩) cR7 Rc t (some ⟨gV, 0, none⟩) cV V w' (by omega) (by omega) (by omega) HNk1 HLs (hide_ h2) (hide_ h3) (hide_ h1)
        rw [hA, hL0] at h
        exact h)
      have HKp : Hid (∀ w', Below wq.heap.size wq w' → Calls Try.prog 19 #[.agg #[.slice (some ⟨gT, 0, none⟩) U.length cT7, .slice (some ⟨gR, 0, none⟩) Rc.length cR7], .agg #[.slice a7 U.length c7, .slice ar7 Rc.length cr7]] w' fun e w'' => e = .returned (.bool true) ∧ Below w'.heap.size w' w'') := hide_ (fun w' hb => by
        have hx := HAll.out w' hb
        exact kept_yes gT cT7 Q gR cR7 w6.heap.size a7 c7 U ar7 cr7 Rc w' (by omega) (by omega) HLs (hide_ hx.lt) HQL (hide_ (town_row hx.tow HQ7.out)) (hide_ (rown_row hx.ro)))
      have HKn : Hid (∀ w', Below wq.heap.size wq w' → Calls Try.prog 20 #[.slice (some ⟨gV, 0, none⟩) V.length cV, .slice av V.length cv] w' fun e w'' => e = .returned (.bool true) ∧ Below w'.heap.size w' w'') := hide_ (fun w' hb => by
        have hx := HAll.out w' hb
        obtain ⟨-, -, -, g2⟩ := HVr.out w' hb
        exact keptN_yes gV cV w6.heap.size av cv V w' (by omega) hcV (hide_ hx.no) (hide_ g2))
      have HNum : Hid (∀ n w', Calls Try.prog 9 #[.int .i64 n] w' fun e w'' => e = .returned (.int .i64 n) ∧ w' = w'') := hide_ (fun n w' => num_any n w')
      have hAl : A.2.length ≤ V.length := by rw [← hA]; exact lenP_le _ _ _ _
      have HA0 : Hid (A.1 = 0 → 0 < A.2.length) := hide_ (fun h => by rw [← hA] at h ⊢; exact lenP_len h)
      have HL0 := hide_ hL0
      clear hA hL0
      obtain ⟨E, nums⟩ := A
      simp only at hAl
      simp only at HCl HCr HCn HA0 HL0
      have HD0 : Hid (Below wq.heap.size wq wq) := hide_ (Below.refl _ _)
      obtain ⟨x0, x1, y0, y1⟩ := HBx.out wq HD0.out
      go_wp2_with fail
      refine (HCl.out wq HD0.out).mono ?_
      rintro e w20 ⟨vl, rfl, HOvl, HD20⟩
      have hz20 : wq.heap.size ≤ w20.heap.size := HD20.out.size
      have HLl : Hid (∀ k, vl.ownBlock = some k → k < w20.heap.size) := hide_ (fun k hk => (HOvl.out.lies hk).2)
      clear x0 x1 y0 y1
      obtain ⟨x0, x1, y0, y1⟩ := HBx.out w20 HD20.out
      go_wp2_with fail
      refine (HCl.out w20 HD20.out).mono ?_
      rintro e w21 ⟨vm, rfl, HOvm, HB21⟩
      have HD21 := hide_ (below_to HD20.out HB21.out)
      have hz21 : w20.heap.size ≤ w21.heap.size := HB21.out.size
      clear x0 x1 y0 y1
      obtain ⟨x0, x1, y0, y1⟩ := HBx.out w21 HD21.out
      go_wp2_with fail
      refine (HCn.out w21 HD21.out).mono ?_
      rintro e w22 ⟨rfl, hb22⟩
      have HB22 := hide_ hb22
      have HD22 := hide_ (below_to HD21.out hb22)
      have hz22 : w21.heap.size ≤ w22.heap.size := hb22.size
      clear x0 x1 y0 y1 hb22
      obtain ⟨x0, x1, y0, y1⟩ := HBx.out w22 HD22.out
      go_wp2_with fail
      refine (HCr.out w22 HD22.out).mono ?_
      rintro e w23 ⟨vx, rfl, HOvx, HB23⟩
      have HD23 := hide_ (below_to HD22.out HB23.out)
      have hz23 : w22.heap.size ≤ w23.heap.size := HB23.out.size
      have HOvl := hide_ (((HOvl.out.later HB21.out).later HB22.out).later HB23.out)
      have HOvm := hide_ ((HOvm.out.later HB22.out).later HB23.out)
      clear x0 x1 y0 y1
      obtain ⟨al, cl, el, hrl, -, -⟩ := HOvl.out.row
      obtain ⟨am, cm, em, hrm, -, -⟩ := HOvm.out.row
      obtain ⟨ax, cx, ex, hrx, -, -⟩ := HOvx.out.row
      subst el em ex
      have HRl := hide_ hrl
      have HRm := hide_ hrm
      have HRx := hide_ hrx
      have hne1 : (E != E) = false := by simp
      clear hrl hrm hrx
      go_wp2_with fail
      refine (HNum.out E w23).mono ?_; rintro e w' ⟨rfl, rfl⟩
      go_wp2_with fail
      refine (HNum.out E w23).mono ?_; rintro e w' ⟨rfl, rfl⟩
      go_wp2_with fail
      refine (HNum.out E w23).mono ?_; rintro e w' ⟨rfl, rfl⟩
      go_wp2_with fail
      refine (sameInts_yes al ax cl cx nums.length nums w23 (hide_ rfl) (by omega) HRl HRx).mono ?_
      rintro e w24 ⟨rfl, hb24⟩
      have HD24 := hide_ (below_to HD23.out hb24)
      have HOvl := hide_ (HOvl.out.later hb24)
      have HOvm := hide_ (HOvm.out.later hb24)
      have HOvx := hide_ (HOvx.out.later hb24)
      have hz24 : w23.heap.size ≤ w24.heap.size := hb24.size
      have HRm := hide_ (HRm.out.later hb24)
      have HRx := hide_ (HRx.out.later hb24)
      clear hb24
      go_wp2_with fail
      refine (sameInts_yes am ax cm cx nums.length nums w24 (hide_ rfl) (by omega) HRm HRx).mono ?_
      rintro e w25 ⟨rfl, hb25⟩
      have HD25 := hide_ (below_to HD24.out hb25)
      have HOvl := hide_ (HOvl.out.later hb25)
      have HOvm := hide_ (HOvm.out.later hb25)
      have HOvx := hide_ (HOvx.out.later hb25)
      have hz25 : w24.heap.size ≤ w25.heap.size := hb25.size
      clear hb25
      obtain ⟨x0, x1, y0, y1⟩ := HBx.out w25 HD25.out
      go_wp2_with fail
      refine (HKp.out w25 HD25.out).mono ?_
      rintro e w26 ⟨rfl, hb26⟩
      have HD26 := hide_ (below_to HD25.out hb26)
      have HOvl := hide_ (HOvl.out.later hb26)
      have HOvm := hide_ (HOvm.out.later hb26)
      have HOvx := hide_ (HOvx.out.later hb26)
      have hz26 : w25.heap.size ≤ w26.heap.size := hb26.size
      clear hb26 x0 x1 y0 y1
      go_wp2_with fail
      refine (HKn.out w26 HD26.out).mono ?_
      rintro e w27 ⟨rfl, hb27⟩
      have HD27 := hide_ (below_to HD26.out hb27)
      have HOvl := hide_ (HOvl.out.later hb27)
      have HOvm0 := hide_ (HOvm.out.later hb27)
      have HOvx := hide_ (HOvx.out.later hb27)
      have hz27 : w26.heap.size ≤ w27.heap.size := hb27.size
      have HOvm : Hid (IOwn w27 wq.heap.size (.slice am nums.length cm) nums) := hide_ (own_base (HOvm.out.later hb27) (by omega))
      have HAp := hide_ (apart_yes (.slice al nums.length cl) (.slice am nums.length cm) nums.length wq.heap.size nums nums w27 (hide_ rfl) (hide_ rfl) (by omega) HD27.out.size HOvl HOvm (hide_ (fun k h1 h2 => by
        have := HLl.out k h1
        have := (HOvm0.out.lies h2).1
        omega)))
      clear hb27
      have HFin : Hid (∀ w28, Hid (Upd (fun k => (Value.slice al nums.length cl).ownBlock = some k ∨ (Value.slice am nums.length cm).ownBlock = some k) w27 w28) → Below wq.heap.size wq w28) := hide_ (fun w28 HU => HD27.out.trans (HU.out.below _ HD27.out.size (fun k hk => by
        rcases hk with h | h
        · have := (HOvl.out.lies h).1; omega
        · have := (HOvm.out.lies h).1; omega)))
      go_upto_region 16 with fail
      go_cut [128] from 106 to 128 (fun c wc => ∃ w28, w28 = wc ∧ c = .bool false ∧ Hid (Below wq.heap.size wq w28))
      case first =>
        by_cases hE : E = 0
        · subst hE
          have hpos := HA0.out rfl
          obtain ⟨gx, hgx⟩ := iown_addr HOvx.out hpos
          subst hgx
          have hx0 := (iown_at HOvx.out hpos).1
          have hl0 : L0 = nums.getD 0 0 := by rw [← HL0.out]; rfl
          rw [← hl0] at hx0
          have hpos' : (0 : Int) < nums.length := by omega
          have hLL : (L0 != L0) = false := by simp
          clear hl0
          go_wp2_with fail
          refine HAp.out.mono ?_
          rintro e w28 ⟨rfl, HU28⟩
          have HB28 := hide_ (HFin.out w28 HU28)
          go_wp2
          go_meet
          case rel => exact ⟨_, rfl, rfl, HB28⟩
        · have hE1 : (E == 0) = false := by simpa using hE
          have hE2 : (E != 0) = true := by simpa using hE
          have hl0 : L0 = 0 := by rw [← HL0.out]; exact if_neg hE
          subst hl0
          go_wp2_with fail
          refine HAp.out.mono ?_
          rintro e w28 ⟨rfl, HU28⟩
          have HB28 := hide_ (HFin.out w28 HU28)
          go_wp2
          go_meet
          case rel => exact ⟨_, rfl, rfl, HB28⟩
      case rest =>
      obtain ⟨w28, rfl, rfl, HD28⟩ := hcut
      have HM28 := hide_ (HAll.out w28 HD28.out)
      have HB28 := hide_ (below_to HB.out HD28.out)
      clear HAp HFin HOvl HOvm HOvm0 HOvx HRl HRm HRx HLl HAll HBx HVr HCl HCr HCn HKp HKn HD27 HD26 HD25 HD24 HD23 HD22 HD21 HD20 HM HB HA0 HL0 HNum
      go_upto_region 18 with fail
      go_cut [131] from 129 to 131 (fun c wc => ∃ d, c = .bool d ∧ Hid (decide (0 < V.length) = d) ∧ w28 = wc)
      case first =>
        go_wp2_with fail
        go_meet
        case rel => exact ⟨_, rfl, hide_ (by simp), rfl⟩
      case rest =>
      obtain ⟨d, rfl, HDv, rfl⟩ := hcut
      cases d with
      | false =>
        go_wp2_with fail
        go_roundw
        case rel => exact ⟨i + 1, V, by omega, by go_num, hide_ rfl, HNk1, HM28, HB28⟩
        case measure => simp [intOf]; omega
      | true =>
        have hv0 : 0 < V.length := of_decide_eq_true HDv.out
        obtain ⟨r, hr⟩ : ∃ r, V.length = r + 1 := ⟨V.length - 1, by omega⟩
        have hrl : r < V.length := by omega
        have hrw : wrap64 ((V.length : Int) - 1) = (r : Int) := by rw [w64 _ (by omega)]; omega
        have hrs : (V.length : Int) - 1 = (r : Int) := by omega
        have hrl' : (r : Int) < V.length := by omega
        have hx : V[r]? = some (V[r]'hrl) := List.getElem?_eq_getElem hrl
        obtain ⟨gv, hgv⟩ : ∃ g, av = some ⟨g, 0, none⟩ := by
          obtain ⟨g, c', ys, e, _⟩ := ownS_blk HM28.out.vo (by omega)
          injection e with e _ _
          exact ⟨g, e⟩
        subst hgv
        obtain ⟨p0, p1, p2⟩ := HM28.out.vo.at3 hx
        have pf := fun j => HM28.out.vo.fr j
        generalize V[r]'hrl = x at *
        obtain ⟨xk, xn, xd⟩ := x
        simp only at p0 p1 p2
        obtain ⟨n2, hn2⟩ : ∃ n2, bits BinOp.xor IntKind.u64 xn 128 = n2 := ⟨_, rfl⟩
        have hb0 := bits_lo_u64 BinOp.xor xn 128
        have hb1 := bits_hi_u64 BinOp.xor xn 128
        rw [hn2] at hb0 hb1
        obtain ⟨hMp, hgBv, hgBL⟩ := HM28.out.put hzv hzl hx n2
        have hVo1 := (HM28.out.vo.setN hx n2).at3 (i := r) (x := ⟨xk, n2, xd⟩) (by rw [List.getElem?_set_self hrl])
        have hNo1 : NOwn (w28.setCell ⟨gv, r * 3 + 1, none⟩ (.int .u64 n2)) w6.heap.size (.slice (some ⟨gV, 0, none⟩) (V.length + 1) cV) (V ++ [mqN]) := HM28.out.no.upd ((Upd.refl (fun q => q = gv) w28).set ⟨gv, r * 3 + 1, none⟩ (.int .u64 n2) (.inl rfl)) (fun k hk e => by
          have e1 := own_is hk
          have e2 := HM28.out.lo gv rfl
          omega)
        have hgf := fun j => hNo1.fr j
        obtain ⟨n0, n1, n3⟩ := hNo1.at3 (i := r) (x := ⟨xk, xn, xd⟩) (by rw [List.getElem?_append_left hrl]; exact hx)
        have HMn := hide_ hMp
        have HLn2 : Hid ((V.set r ⟨xk, n2, xd⟩).length = V.length) := hide_ (by rw [List.length_set])
        have HNk2 : Hid (∀ x ∈ V.set r ⟨xk, n2, xd⟩, NvOk x) := hide_ (fun x hx => by
          rcases List.mem_or_eq_of_mem_set hx with h | h
          · exact HNk1.out x h
          · subst h; exact ⟨hb0, by show n2 < _; omega⟩)
        have HBn := hide_ (HB28.out.trans ((((((Upd.refl (fun q => q = gv ∨ q = gV) w28).set ⟨gv, r * 3 + 1, none⟩ (.int .u64 n2) (.inl (.inl rfl))).set ⟨gV, r * 3, none⟩ (.int .i64 xk) (.inl (.inr rfl))).set ⟨gV, r * 3 + 1, none⟩ (.int .u64 n2) (.inl (.inr rfl))).set ⟨gV, r * 3 + 2, none⟩ (.int .i64 xd) (.inl (.inr rfl))).below w.heap.size HB28.out.size (fun k hk => by omega)))
        obtain ⟨w29, hw29⟩ : ∃ wx, wx = w28.setCell ⟨gv, r * 3 + 1, none⟩ (.int .u64 n2) := ⟨_, rfl⟩
        rw [← hw29] at hVo1 n0 n1 n3 HMn HBn
        obtain ⟨v0, v1, v2⟩ := hVo1
        have hgf2 : ∀ j, w29.frozen? ⟨gV, j, none⟩ = false := fun j => by rw [hw29]; exact hgf j
        simp only at v0 v1 v2 n0 n1 n3
        clear hv0 hMp hgf hNo1 hr hrl
        go_upto_region 20 with fail
        (try rw [hn2])
        rw [← hw29]
        clear hw29 p0 p1 p2 pf HM28 HB28
        go_wp2_with fail
        go_roundw
        case rel => exact ⟨i + 1, _, by omega, by go_num, HLn2, HNk2, HMn, HBn⟩
        case measure => simp [intOf]; omega
    · obtain rfl : i = 2 := by omega
      go_wp2
      go_ret
      exact ⟨rfl, HB.out⟩
end Go.Proofs.Ytdpkmkhflgmioaa
