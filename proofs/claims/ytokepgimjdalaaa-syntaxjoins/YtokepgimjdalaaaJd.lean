/- SyntaxJoins. -/
import Derived.Test.YtokepgimjdalaaaJc
import Derived.Test.YtokepgimjdalaaaUe
namespace Go.Proofs.Ytokepgimjdalaaa
open Go.RowKit
set_option linter.unusedVariables false

theorem prs_at {s : ByteArray} (h : (cutT s).2.1 = 0) : (prsT s).2.2 ≤ s.size := by
  cases hr : srcP ((cutT s).1.map core) 257 [] 0 with
  | ok D => rw [prs_ok h hr]; exact Nat.zero_le _
  | error e =>
    rw [prs_err h hr]
    show plc (cutT s).1 s.size e.2 ≤ s.size
    rcases Nat.lt_or_ge e.2 (cutT s).1.length with h1 | h1
    · exact Nat.le_of_lt (plc_lt h h1)
    · unfold plc tkAt; rw [if_neg (by omega)]; exact Nat.le_refl _
theorem bldF2 (w : World) : (Instr.build 28 #[]).run Try.prog w = .ok (.agg #[.int .i64 0, .int .i64 0]) w := by kernel_rfl
set_option maxRecDepth 100000 in
set_option maxHeartbeats 8000000 in
theorem joins_any (s t : ByteArray) (w : World) (hsb : s.size ≤ 140737488355328) (htb : t.size ≤ 140737488355328) : Calls Try.prog 6 #[.string s, .string t] w fun e w' => e = .returned (.bool true) ∧ Below w.heap.size w w' := by
  have hj := joins (a := s) (b := t)
  have hz := jn_size s t
  have hbad := prs_bad (s := jn s t)
  have hat := fun hs h => prs_at (s := t) (jn_cut (a := s) (b := t) hs h).2.1
  have hs1 := prs_small (s := s)
  have hs2 := prs_small (s := t)
  have hs3 := prs_small (s := jn s t)
  obtain ⟨⟨D1, E1, A1⟩, hP1⟩ : ∃ R, prsT s = R := ⟨_, rfl⟩
  obtain ⟨⟨D2, E2, A2⟩, hP2⟩ : ∃ R, prsT t = R := ⟨_, rfl⟩
  obtain ⟨⟨D3, E3, A3⟩, hP3⟩ : ∃ R, prsT (jn s t) = R := ⟨_, rfl⟩
  obtain ⟨⟨ts, Ec, Ac⟩, hC⟩ : ∃ R, cutT (jn s t) = R := ⟨_, rfl⟩
  rw [hP1, hP2, hP3, hC] at hj
  rw [hP3, hC] at hbad
  rw [hP2, hC] at hat
  rw [hP1] at hs1
  rw [hP2] at hs2
  rw [hP3] at hs3
  simp only at hj hbad hat hs1 hs2 hs3
  have HP1 := hide_ hP1
  have HP2 := hide_ hP2
  have HP3 := hide_ hP3
  have HC := hide_ hC
  have HJ := hide_ hj
  have HBad := hide_ hbad
  have HAt := hide_ hat
  have HS1 := hide_ hs1
  have HS2 := hide_ hs2
  have HS3 := hide_ hs3
  have HZ := hide_ hz
  clear hP1 hP2 hP3 hC hj hbad hat hs1 hs2 hs3 hz
  go_enter Try.func6, Try.ntmps6
  go_wp2_with fail
  refine (first_any w).mono ?_; rintro e w1 ⟨rfl, hB1⟩
  have HB1 := hide_ hB1
  clear hB1
  go_wp2_with fail
  rw [jn_is]
  generalize jn s t = st at *
  refine (parse_is HP1.out w1).mono ?_; rintro e w2 ⟨a1, c1, vs1, rfl, hc1, -, HD1, HB2⟩
  obtain ⟨k1, k2, hB3⟩ := boxes2 w2 (.slice a1 D1.length c1) (.int .i64 (E1 : Int)) (.int .i64 (A1 : Int))
  obtain ⟨w3, hw3⟩ : ∃ w3, w3 = (w2.alloc (.cells #[.slice a1 D1.length c1] 25)).alloc (.cells #[.int .i64 (E1 : Int), .int .i64 (A1 : Int)] 28) := ⟨_, rfl⟩
  rw [← hw3] at k1 k2 hB3
  have HK1 := hide_ k1
  have HK2 := hide_ k2
  have HB3 := hide_ (below_to (below_to HB1.out HB2.out) hB3)
  have HR1 := hide_ (HD1.out.1.later hB3)
  have hl1 := HD1.out.2
  clear k1 k2 hB3 HB1 HB2 HD1
  go_upto_region 5 with fail
  rw [← hw3]
  clear hw3
  go_wp2_with fail
  refine (parse_is HP2.out w3).mono ?_; rintro e w4 ⟨a2, c2, vs2, rfl, hc2, -, HD2, HB4⟩
  obtain ⟨k3, k4, hB5⟩ := boxes2 w4 (.slice a2 D2.length c2) (.int .i64 (E2 : Int)) (.int .i64 (A2 : Int))
  obtain ⟨w5, hw5⟩ : ∃ w5, w5 = (w4.alloc (.cells #[.slice a2 D2.length c2] 25)).alloc (.cells #[.int .i64 (E2 : Int), .int .i64 (A2 : Int)] 28) := ⟨_, rfl⟩
  rw [← hw5] at k3 k4 hB5
  have hB35 := below_to HB4.out hB5
  have HK3 := hide_ k3
  have HK4 := hide_ k4
  have HR2 := hide_ (HD2.out.1.later hB5)
  have hl2 := HD2.out.2
  have HB5 := hide_ (below_to HB3.out hB35)
  have HK1 := hide_ (HK1.out.later hB35)
  have HK2 := hide_ (HK2.out.later hB35)
  have HR1 := hide_ (HR1.out.later hB35)
  clear k3 k4 hB5 hB35 HB3 HB4 HD2
  go_upto_region 6 with fail
  rw [← hw5]
  clear hw5
  go_wp2_with fail
  refine (parse_is HP3.out w5).mono ?_; rintro e w6 ⟨a3, c3, vs3, rfl, hc3, HX3, HD3, HB6⟩
  obtain ⟨k5, k6, hB7⟩ := boxes2 w6 (.slice a3 D3.length c3) (.int .i64 (E3 : Int)) (.int .i64 (A3 : Int))
  obtain ⟨w7, hw7⟩ : ∃ w7, w7 = (w6.alloc (.cells #[.slice a3 D3.length c3] 25)).alloc (.cells #[.int .i64 (E3 : Int), .int .i64 (A3 : Int)] 28) := ⟨_, rfl⟩
  rw [← hw7] at k5 k6 hB7
  have hB57 := below_to HB6.out hB7
  have HK5 := hide_ k5
  have HK6 := hide_ k6
  have HX3 := hide_ (HX3.out.later hB7)
  have hl3 := HD3.out.2
  have HB7 := hide_ (below_to HB5.out hB57)
  have HK1 := hide_ (HK1.out.later hB57)
  have HK2 := hide_ (HK2.out.later hB57)
  have HK3 := hide_ (HK3.out.later hB57)
  have HK4 := hide_ (HK4.out.later hB57)
  have HR1 := hide_ (HR1.out.later hB57)
  have HR2 := hide_ (HR2.out.later hB57)
  have x0 := HK2.out.cell 0; have x1 := HK2.out.cell 1
  simp at x0 x1
  clear k5 k6 hB7 hB57 HB5 HB6 HD3
  go_upto_region 7 with fail
  rw [← hw7]
  clear hw7
  by_cases hbig : (65536 : Int) < st.size
  · go_wp2
    go_ret
    exact ⟨rfl, HB7.out⟩
  have hsz : st.size ≤ 65536 := by omega
  by_cases hE1 : E1 = 0
  case neg =>
    have e1 : ((E1 : Int) != 0) = true := by simpa using hE1
    by_cases hA : A1 = s.size
    · have e2 : ((A1 : Int) == s.size) = true := by rw [hA]; simp
      go_wp2
      go_ret
      exact ⟨rfl, HB7.out⟩
    have e2 : ((A1 : Int) == s.size) = false := by
      have : (A1 : Int) ≠ s.size := by omega
      simpa using this
    go_wp2_with fail
    clear x0 x1
    refine (cut_is HC.out w7).mono ?_; rintro e w8 ⟨a8, c8, rfl, hc8, -, -, HB8⟩
    have k9 := Blk.newA w8 #[.int .i64 (Ec : Int), .int .i64 (Ac : Int)] 28
    have hB9 : Below w8.heap.size w8 (w8.alloc (.cells #[.int .i64 (Ec : Int), .int .i64 (Ac : Int)] 28)) := (Below.refl _ w8).alloc (Nat.le_refl _) _
    obtain ⟨w9, hw9⟩ : ∃ w9, w9 = w8.alloc (.cells #[.int .i64 (Ec : Int), .int .i64 (Ac : Int)] 28) := ⟨_, rfl⟩
    rw [← hw9] at k9 hB9
    have hB79 := below_to HB8.out hB9
    have x0 := (HK2.out.later hB79).cell 0; have x1 := (HK2.out.later hB79).cell 1
    have y0 := (HK6.out.later hB79).cell 0; have y1 := (HK6.out.later hB79).cell 1
    have z0 := k9.cell 0; have z1 := k9.cell 1
    simp at x0 x1 y0 y1 z0 z1
    have HB9 := hide_ (below_to HB7.out hB79)
    have HB79 := hide_ hB79
    clear k9 hB9 hB79 HB8
    go_upto_region 10 with fail
    rw [← hw9]
    clear hw9
    by_cases hEc : Ec = 0
    case neg =>
      have e3 : ((Ec : Int) != 0) = true := by simpa using hEc
      have h := HBad.out hEc
      injection h with h1 h2
      injection h2 with h2 h3
      subst h1 h2 h3
      go_wp2
      go_ret
      exact ⟨by simp, HB9.out⟩
    have h := (HJ.out hsz hEc).1 hE1 hA
    injection h with h1 h2
    subst hEc h1 h2
    go_wp2
    go_ret
    exact ⟨by simp, HB9.out⟩
  subst hE1
  go_wp2_with fail
  clear x0 x1
  refine (cut_is HC.out w7).mono ?_; rintro e w8 ⟨a8, c8, rfl, hc8, -, -, HB8⟩
  have k9 := Blk.newA w8 #[.int .i64 (Ec : Int), .int .i64 (Ac : Int)] 28
  have hB9 : Below w8.heap.size w8 (w8.alloc (.cells #[.int .i64 (Ec : Int), .int .i64 (Ac : Int)] 28)) := (Below.refl _ w8).alloc (Nat.le_refl _) _
  obtain ⟨w9, hw9⟩ : ∃ w9, w9 = w8.alloc (.cells #[.int .i64 (Ec : Int), .int .i64 (Ac : Int)] 28) := ⟨_, rfl⟩
  rw [← hw9] at k9 hB9
  have hB79 := below_to HB8.out hB9
  have x0 := (HK2.out.later hB79).cell 0; have x1 := (HK2.out.later hB79).cell 1
  have y0 := (HK6.out.later hB79).cell 0; have y1 := (HK6.out.later hB79).cell 1
  have z0 := k9.cell 0; have z1 := k9.cell 1
  simp at x0 x1 y0 y1 z0 z1
  have HB9 := hide_ (below_to HB7.out hB79)
  have HB79 := hide_ hB79
  clear k9 hB9 hB79 HB8
  go_upto_region 10 with fail
  rw [← hw9]
  clear hw9
  by_cases hEc : Ec = 0
  case neg =>
    have e3 : ((Ec : Int) != 0) = true := by simpa using hEc
    have h := HBad.out hEc
    injection h with h1 h2
    injection h2 with h2 h3
    subst h1 h2 h3
    go_wp2
    go_ret
    exact ⟨by simp, HB9.out⟩
  obtain ⟨-, J2, J3, J4⟩ := HJ.out hsz hEc
  have hat := HAt.out hsz hEc
  have HJ2 := hide_ (J2 trivial)
  have HJ3 := hide_ (J3 trivial)
  have HJ4 := hide_ (J4 trivial)
  subst hEc
  have u0 := (HK1.out.later HB79.out).cell 0
  have v0 := (HK3.out.later HB79.out).cell 0
  have t0 := (HK4.out.later HB79.out).cell 0; have t1 := (HK4.out.later HB79.out).cell 1
  simp at u0 v0 t0 t1
  clear J2 J3 J4 HJ HBad HAt z1
  have hsum : IntKind.i64.wrap ((D1.length : Int) + D2.length) = (D1.length : Int) + D2.length := i64w _ (by omega)
  by_cases hm : (256 : Int) < (D1.length : Int) + D2.length
  · have h := HJ2.out (by omega)
    subst h
    go_wp2
    go_ret
    exact ⟨by simp, HB9.out⟩
  by_cases hE2 : E2 = 0
  case neg =>
    have e2 : ((E2 : Int) != 0) = true := by simpa using hE2
    have hszs : (s.size : Int) ≤ 65536 ∧ (t.size : Int) ≤ 65536 := by have := HZ.out; omega
    have hA2 : (A2 : Int) ≤ 65536 := by omega
    have hw1 : IntKind.i64.wrap ((A2 : Int) + s.size) = (A2 : Int) + s.size := i64w _ (by omega)
    have hw2 : IntKind.i64.wrap ((A2 : Int) + s.size + 1) = (A2 : Int) + s.size + 1 := i64w _ (by omega)
    by_cases h5 : E3 = 5
    · subst h5
      go_wp2
      go_ret
      exact ⟨by simp, HB9.out⟩
    have e5 : ((E3 : Int) == 5) = false := by
      have : (E3 : Int) ≠ 5 := by omega
      simpa using this
    have h := (HJ3.out hE2).resolve_left h5
    injection h with h1 h2
    have hA3 : (A3 : Int) = (A2 : Int) + s.size + 1 := by omega
    subst h1
    rw [hA3] at y1
    clear hA3 h2
    go_wp2
    go_ret
    exact ⟨by simp, HB9.out⟩
  subst hE2
  obtain ⟨hU, HDD⟩ := HJ4.out rfl (by omega)
  injection hU with h1 h2
  subst h1 h2
  have hS1 := HS1.out hl1
  have hS2 := HS2.out hl2
  have hS3 := HS3.out hl3
  have HR1 := hide_ (HR1.out.later HB79.out)
  have HR2 := hide_ (HR2.out.later HB79.out)
  have HX3 := hide_ (HX3.out.later HB79.out)
  have HK3 := hide_ (HK3.out.later HB79.out)
  have HK5 := hide_ (HK5.out.later HB79.out)
  have HK6 := hide_ (HK6.out.later HB79.out)
  have HSm1 := hide_ hS1
  have HSm2 := hide_ hS2
  have HSm3 := hide_ hS3
  clear hS1 hS2 hS3 HS1 HS2 HS3 HB79 HB7 HK1 HK2 HK4 HJ2 HJ3 HJ4 HZ HC HP1 HP2 HP3 hsum
  go_wp2_with fail
  refine (bare_any a1 c1 D1 w9 HSm1 hc1 HR1).mono ?_; rintro e wa ⟨vd1, us1, rfl, HX1, HBa⟩
  have HL1 : Hid ((D1.map zDf).length ≤ 256) := hide_ (by rw [List.length_map]; exact hl1)
  have HDD := hide_ HDD
  generalize D1.map zDf = Z1 at *
  obtain ⟨r1, kc1, rfl, hkc1, -⟩ := HX1.out.row
  have ka := Blk.newA wa #[.slice r1 Z1.length kc1] 25
  have hBb : Below wa.heap.size wa (wa.alloc (.cells #[.slice r1 Z1.length kc1] 25)) := (Below.refl _ wa).alloc (Nat.le_refl _) _
  obtain ⟨wb, hwb⟩ : ∃ wb, wb = wa.alloc (.cells #[.slice r1 Z1.length kc1] 25) := ⟨_, rfl⟩
  rw [← hwb] at ka hBb
  have hB9b := below_to HBa.out hBb
  have v0 := (HK3.out.later hB9b).cell 0
  simp at v0
  have HKa := hide_ ka
  have HX1 := hide_ (HX1.out.later hBb)
  have HBb := hide_ (below_to HB9.out hB9b)
  have HR2 := hide_ (HR2.out.later hB9b)
  have HX3 := hide_ (HX3.out.later hB9b)
  have HNE : Hid (w6.heap.size < wa.heap.size ∧ w6.heap.size + 1 < wa.heap.size ∧ w.heap.size ≤ wa.heap.size) := hide_ ⟨Nat.lt_of_lt_of_le HK5.out.lt HBa.out.size, Nat.lt_of_lt_of_le HK6.out.lt HBa.out.size, Nat.le_trans HB9.out.size HBa.out.size⟩
  have HK5 := hide_ (HK5.out.later hB9b)
  have HK6 := hide_ (HK6.out.later hB9b)
  clear ka hBb hB9b HBa x0 x1 y0 y1 u0 t0 t1 HB9 z0
  go_upto_region 19 with fail
  rw [← hwb]
  clear hwb
  go_wp2_with fail
  refine (bare_any a2 c2 D2 wb HSm2 hc2 HR2).mono ?_; rintro e wh ⟨vd2, us2, rfl, HX2, HBc⟩
  have HL2 : Hid ((D2.map zDf).length ≤ 256) := hide_ (by rw [List.length_map]; exact hl2)
  generalize D2.map zDf = Z2 at *
  obtain ⟨r2, kc2, rfl, hkc2, -⟩ := HX2.out.row
  have kc := Blk.newA wh #[.slice r2 Z2.length kc2] 25
  have hBd : Below wh.heap.size wh (wh.alloc (.cells #[.slice r2 Z2.length kc2] 25)) := (Below.refl _ wh).alloc (Nat.le_refl _) _
  obtain ⟨wd, hwd⟩ : ∃ wd, wd = wh.alloc (.cells #[.slice r2 Z2.length kc2] 25) := ⟨_, rfl⟩
  rw [← hwd] at kc hBd
  have hBbd := below_to HBc.out hBd
  have HKc := hide_ kc
  have HKa := hide_ (HKa.out.later hBbd)
  have HX1 := hide_ (HX1.out.later hBbd)
  have HX2 := hide_ (HX2.out.later hBd)
  have HBd := hide_ (below_to HBb.out hBbd)
  have HX3 := hide_ (HX3.out.later hBbd)
  have HK5 := hide_ (HK5.out.later hBbd)
  have HK6 := hide_ (HK6.out.later hBbd)
  clear kc hBd hBbd HBc v0 HBb
  go_upto_region 20 with fail
  rw [← hwd]
  clear hwd
  obtain ⟨u, wA, r, cap, wB, ra, rb, hcap, hBB, hBA, hDD⟩ := join_row (w := wd.drew) (HX1.out.later ((Below.refl _ _).drew)) (HX2.out.later ((Below.refl _ _).drew)) HL1.out HL2.out (g := wa.heap.size) HKa.out
  generalize Z1 ++ Z2 = Z at *
  have HRa : Hid ((Builtin.append_ #[23, 23] 23 #[.slice (some ⟨wd.heap.size, 0, none⟩) 0 0, .slice r1 Z1.length kc1]).run Try.prog (wd.alloc (.cells #[] 38)).drew = .ok u wA) := hide_ ra
  have HRb := hide_ rb
  have hBA' : Below wd.heap.size wd wA := ((Below.refl _ _).drew).trans hBA
  have hBB' : Below wd.heap.size wd wB := ((Below.refl _ _).drew).trans hBB
  have s0 := HKa.out.cell 0
  have s1 : ∀ ob, (wd.alloc ob).cell? ⟨wa.heap.size, 0, none⟩ = some (.slice r1 Z1.length kc1) := fun ob => (cell_al wd ob _ _ HKa.out.lt).trans (HKa.out.cell 0)
  have q0 := HKc.out.cell 0
  have q1 : ∀ ob, (wd.alloc ob).cell? ⟨wh.heap.size, 0, none⟩ = some (.slice r2 Z2.length kc2) := fun ob => (cell_al wd ob _ _ HKc.out.lt).trans (HKc.out.cell 0)
  have q2 := (HKc.out.later hBA').cell 0
  have x9 := (HKa.out.later hBB').cell 0
  have z9 := (HKa.out.later hBB').frozen 0
  simp at s0 q0 q2 x9
  have hU : Upd (fun k => k = wa.heap.size) wB (wB.setCell ⟨wa.heap.size, 0, none⟩ (.slice r Z.length cap)) := (Upd.refl _ wB).set _ _ (.inl rfl)
  have hKE : Blk (wB.setCell ⟨wa.heap.size, 0, none⟩ (.slice r Z.length cap)) wa.heap.size 25 [.slice r Z.length cap] := by
    have := (HKa.out.later hBB').set 0 (.slice r Z.length cap); simpa using this
  have HDr := hide_ (hDD (.slice r Z.length cap))
  have k5 := (HK5.out.later hBB').other ⟨wa.heap.size, 0, none⟩ (.slice r Z.length cap) (Nat.ne_of_lt HNE.out.1)
  have k6 := (HK6.out.later hBB').other ⟨wa.heap.size, 0, none⟩ (.slice r Z.length cap) (Nat.ne_of_lt HNE.out.2.1)
  have X3 := (HX3.out.later hBB').other hU (HKa.out.later hBB') (by decide) (by decide)
  have hBE := below_set (HBd.out.trans (hBB'.mono HBd.out.size)) wa.heap.size 0 (.slice r Z.length cap) HNE.out.2.2
  obtain ⟨wE, hwE⟩ : ∃ wE, wE = wB.setCell ⟨wa.heap.size, 0, none⟩ (.slice r Z.length cap) := ⟨_, rfl⟩
  rw [← hwE] at hKE HDr k5 k6 X3 hBE
  have HKE := hide_ hKE
  have HK5E := hide_ k5
  have HK6E := hide_ k6
  have HX3E := hide_ X3
  have HBE := hide_ hBE
  clear hKE k5 k6 X3 hBE hU hBB hBA hDD ra rb hBA' hBB' HX1 HX2 HX3 HK5 HK6 HBd HNE
  go_cut [4] from 103 to 110 (fun x4 wx => x4 = .bool false ∧ wE = wx)
  case first =>
    go_region_law (first | (refine step_append_run rfl (.tmp 103) (.tmp 105) 23 23 rfl rfl rfl HRa.out ?_) | (refine step_append_run rfl (.tmp 106) (.tmp 108) 23 23 rfl rfl rfl HRb.out ?_))
    all_goals
      rw [← hwE]
      go_wp2
      go_meet
      case rel => exact ⟨rfl, rfl⟩
  case rest =>
    obtain ⟨rfl, rfl⟩ := hcut
    clear hwE HRa HRb s0 s1 q0 q1 q2 x9 z9
    have HSS : Hid (∀ w', Below wE.heap.size wE w' → Below wE.heap.size wE w' ∧ w'.cell? ⟨w6.heap.size + 1, 0, none⟩ = some (.int .i64 0) ∧ w'.cell? ⟨w6.heap.size + 1, 1, none⟩ = some (.int .i64 0) ∧ w'.cell? ⟨w6.heap.size, 0, none⟩ = some (.slice a3 D3.length c3) ∧ w'.cell? ⟨wa.heap.size, 0, none⟩ = some (.slice r Z.length cap)) := hide_ (fun w' hB => ⟨hB, (HK6E.out.later hB).cell 0, (HK6E.out.later hB).cell 1, (HK5E.out.later hB).cell 0, (HKE.out.later hB).cell 0⟩)
    have HZ3 : Hid (D3.map zDf = Z) := HDD
    have HBs : Hid (∀ w', Below wE.heap.size wE w' → Calls Try.prog 15 #[.agg #[.slice a3 D3.length c3]] w' fun e w'' => ∃ vd vs, e = .returned (.agg #[vd]) ∧ Hid (Src w'' w'.heap.size vd Z vs) ∧ Hid (Below w'.heap.size w' w'')) := hide_ (fun w' hB => by
      obtain ⟨ra, rc, hv, -, hR⟩ := (HX3E.out.later hB).row
      injection hv with e1 e2 e3
      subst e1
      have h := bare_any a3 c3 D3 w' HSm3 hc3 (hide_ hR)
      rw [HZ3.out] at h
      exact h)
    have HDr2 : Hid (∀ w', Below wE.heap.size wE w' → DRow w' r Z) := hide_ (fun w' hB => HDr.out.later hB)
    have hbf := bldF2
    clear HDr HX3E HSm3 HSm1 HSm2 HDD HZ3 HK5E HK6E HKE
    go_wp2_with fail
    go_region_held_law (fun w' => Below wE.heap.size wE w' ∧ w'.cell? ⟨w6.heap.size + 1, 0, none⟩ = some (.int .i64 0) ∧ w'.cell? ⟨w6.heap.size + 1, 1, none⟩ = some (.int .i64 0) ∧ w'.cell? ⟨w6.heap.size, 0, none⟩ = some (.slice a3 D3.length c3) ∧ w'.cell? ⟨wa.heap.size, 0, none⟩ = some (.slice r Z.length cap)) (first | assumption | exact HSS.out _ ((Below.refl _ _).drew))
      (first
        | (go_at_call 15; refine (HBs.out _ (by first | assumption | exact And.left (by assumption))).mono ?_; rintro e wI ⟨vd3, us3, rfl, HXI, HBI⟩; (have GI := HSS.out wI (below_to (by first | assumption | exact And.left (by assumption)) HBI.out)); (obtain ⟨r3, kc3, rfl, hkc3, hRI⟩ := HXI.out.row); (have HRI := hide_ hRI); (have HLI := hide_ HXI.out.lens); (have HDI := hide_ (HDr2.out wI GI.1)); (clear hRI))
        | (go_at_call 14; refine (same_any r3 r kc3 cap Z _ HLI HRI HDI).mono ?_; rintro e wJ ⟨rfl, hBJ⟩; (have GJ := HSS.out wJ (below_to (by first | assumption | exact And.left (by assumption)) hBJ)); (clear hBJ)))
    all_goals
      have HBf := hide_ (HBE.out.trans (GJ.1.mono HBE.out.size))
      clear GI GJ HXI HBI HRI HLI HDI HSS HBs HDr2
      go_wp2
      go_ret
      exact ⟨by simp, HBf.out⟩
end Go.Proofs.Ytokepgimjdalaaa
