/- SyntaxPlaces: the walk up to its loops. -/
import Derived.Test.YtokepgimjdalaaaXg
namespace Go.Proofs.Ytokepgimjdalaaa
open Go.RowKit
set_option linter.unusedVariables false

theorem prs_fault {s : ByteArray} (h : (prsT s).2.1 ≠ 0) : (prsT s).1 = [] ∧ (prsT s).2.2 ≤ s.size := by
  unfold prsT at h ⊢
  by_cases h0 : (cutT s).2.1 = 0
  · rw [if_pos h0] at h ⊢
    unfold prsP at h ⊢
    cases hs : srcP ((cutT s).1.map core) 257 [] 0 with
    | ok D => rw [hs] at h; exact absurd rfl h
    | error e =>
      refine ⟨rfl, ?_⟩
      show plc (cutT s).1 s.size e.2 ≤ s.size
      by_cases hi : e.2 < (cutT s).1.length
      · rw [plc_pl hi]
        have := (pl_text2 h0 hi).1
        omega
      · unfold plc tkAt
        rw [if_neg hi]
        exact Nat.le_refl _
  · rw [if_neg h0]
    refine ⟨rfl, ?_⟩
    show (cutT s).2.2 ≤ s.size
    unfold cutT at h0 ⊢
    split
    · exact Nat.zero_le _
    · rename_i hs
      rw [if_neg hs] at h0
      have := ((cut_form s.data.toList 0).1 h0).2.2.1
      rw [Nat.zero_add, ← Lib.size_eq] at this
      omega
theorem bldF (w : World) : (Instr.build 28 #[]).run Try.prog w = .ok (.agg #[.int .i64 0, .int .i64 0]) w := by kernel_rfl
set_option maxRecDepth 100000 in
set_option maxHeartbeats 8000000 in
theorem places_any (s : ByteArray) (w : World) : Calls Try.prog 3 #[.string s] w fun e w' => e = .returned (.bool true) ∧ Below w.heap.size w w' := by
  have hf := prs_fault (s := s)
  have hg := prs_rise (s := s)
  have hck := prs_check (s := s)
  have hcf := (show (cutT s).2.1 = 0 → (cutT s).2.2 = 0 from fun h => by
    unfold cutT at h ⊢
    split
    · rfl
    · rename_i hs
      rw [if_neg hs] at h
      exact (cut_form s.data.toList 0).2 h)
  have hfew := cut_few s
  obtain ⟨⟨D, E, A⟩, hP⟩ : ∃ R, prsT s = R := ⟨_, rfl⟩
  rw [hP] at hf hg hck
  simp only at hf hg hck
  have HP := hide_ hP
  have HF := hide_ hf
  have HG := hide_ hg
  have HCk := hide_ hck
  have HCf := hide_ hcf
  clear hf hg hck hcf hP
  go_enter Try.func3, Try.ntmps3
  go_wp2_with fail
  refine (first_any w).mono ?_; rintro e w1 ⟨rfl, hB1⟩
  have HB1 := hide_ hB1
  clear hB1
  go_wp2_with fail
  refine (parse_is HP.out w1).mono ?_; rintro e w2 ⟨a, cap, vs, rfl, hcap, HS2, HD2, HB2⟩
  have HB2 := hide_ (below_to HB1.out HB2.out)
  have HL2 := hide_ HS2.out.lens
  have k1 := (Blk.newA w2 #[.slice a D.length cap] 25).alloc (.cells #[.int .i64 (E : Int), .int .i64 (A : Int)] 28)
  have k2 : Blk ((w2.alloc (.cells #[.slice a D.length cap] 25)).alloc (.cells #[.int .i64 (E : Int), .int .i64 (A : Int)] 28)) (w2.heap.size + 1) 28 [.int .i64 (E : Int), .int .i64 (A : Int)] := by have h := Blk.newA (w2.alloc (.cells #[.slice a D.length cap] 25)) #[.int .i64 (E : Int), .int .i64 (A : Int)] 28; simpa using h
  have hB3 := below2 w2 (.cells #[.slice a D.length cap] 25) (.cells #[.int .i64 (E : Int), .int .i64 (A : Int)] 28)
  have HD3 := hide_ (HD2.out.1.later hB3)
  have hD256 := HD2.out.2
  have HB3 := hide_ (below_to HB2.out hB3)
  obtain ⟨w3, hw3⟩ : ∃ w3, w3 = (w2.alloc (.cells #[.slice a D.length cap] 25)).alloc (.cells #[.int .i64 (E : Int), .int .i64 (A : Int)] 28) := ⟨_, rfl⟩
  rw [← hw3] at k1 k2 HD3 HB3
  have HK1 := hide_ k1
  have HK2 := hide_ k2
  clear hB3 HD2 HS2 HB1 HB2
  have c0 := k1.cell 0; have d0 := k2.cell 0; have d1 := k2.cell 1
  simp at c0 d0 d1
  clear k1 k2
  go_upto_region 4 with fail
  rw [← hw3]
  clear hw3
  by_cases hE : E = 0
  · subst hE
    obtain ⟨h0, hA, D0, hi0, hD0, hR0⟩ := HG.out rfl
    have HV := HCk.out rfl
    have hpr : ∀ a b, a < b → b < (cutT s).1.length → pl (cutT s).1 a < pl (cutT s).1 b := fun a b h hb => pl_rise h hb
    have htx : ∀ a, a < (cutT s).1.length → pl (cutT s).1 a < s.size ∧ pl (cutT s).1 a + ((cutT s).1.getD a tk0).t.size ≤ s.size ∧ s.extract (pl (cutT s).1 a) (pl (cutT s).1 a + ((cutT s).1.getD a tk0).t.size) = ((cutT s).1.getD a tk0).t := fun a ha => pl_text2 h0 ha
    have hs64 : s.size ≤ 65536 := by
      rcases Nat.lt_or_ge 65536 s.size with h | h
      · have := h0; unfold cutT at this; rw [if_pos h] at this; cases this
      · exact h
    have hA2 := HCf.out h0
    obtain ⟨⟨ts, E2, A2⟩, hC⟩ : ∃ R, cutT s = R := ⟨_, rfl⟩
    rw [hC] at hfew h0 hA2 hD0 hR0 hpr htx
    simp only at hfew h0 hA2 hD0 hR0 hpr htx
    subst h0 hA2 hA
    have HC := hide_ hC
    have HPr := hide_ hpr
    have HTx := hide_ htx
    have HR0 := hide_ (show ∃ hi, RiseD (ts.map core) 0 D0 hi from ⟨hi0, hR0⟩)
    have HDl : Hid (D.length = D0.length) := hide_ (by rw [hD0, List.length_map])
    have HD0 := hide_ hD0
    have HCon := check_any a cap D w3 HL2 HD3
    rw [HV] at HCon
    have HCon := hide_ HCon
    have hbf := bldF
    clear hC hpr htx hR0 hD0 HV HF HG HCk HCf HP
    go_wp2_with fail
    refine HCon.out.mono ?_; rintro e w4 ⟨rfl, hB4⟩
    have HB4 := hide_ hB4
    clear hB4 HCon
    go_wp2_with fail
    refine (cut_is HC.out w4).mono ?_; rintro e w5 ⟨a5, cap5, rfl, hcap5, HT5, -, HB5⟩
    have hB6 : Below w3.heap.size w3 (w5.alloc (.cells #[.int .i64 0, .int .i64 0] 28)) := below_to (below_to HB4.out HB5.out) ((Below.refl _ _).alloc (Nat.le_refl _) _)
    have HT6 := hide_ (HT5.out.later ((Below.refl _ w5).alloc (Nat.le_refl _) (.cells #[.int .i64 0, .int .i64 0] 28)))
    have k6 := Blk.newA w5 #[.int .i64 0, .int .i64 0] 28
    obtain ⟨w6, hw6⟩ : ∃ w6, w6 = w5.alloc (.cells #[.int .i64 0, .int .i64 0] 28) := ⟨_, rfl⟩
    rw [← hw6] at hB6 HT6 k6
    have q0' := k6.cell 0; have q1' := k6.cell 1
    have HK6 := hide_ (HK1.out.later hB6)
    have e1 := (HK2.out.later hB6).cell 1
    have HD6 := hide_ (HD3.out.later hB6)
    have HB6 := hide_ (below_to HB3.out hB6)
    simp at q0' q1' e1
    clear k6 hB6 HT5 HB5 HB4 HK1 HK2 HD3 HB3 c0 d0 d1
    go_upto_region 8 with fail
    rw [← hw6]
    clear hw6
    go_wp2_with fail
    clear q0' q1' e1 hbf
    go_loopw [10, 11, 12] (fun x10 x11 x12 wr => ∃ (t : Int) (k i lo : Nat), x10 = .int .i64 t ∧ x11 = .int .i64 (k : Int) ∧ x12 = .int .i64 (i : Int) ∧ i ≤ D.length ∧ k ≤ lo ∧ k ≤ ts.length ∧ Hid (∀ j, lo ≤ j → j < ts.length → t < pl ts j) ∧ Hid (∃ hi, RiseD (ts.map core) lo (D0.drop i) hi) ∧ Hid (Below w6.heap.size w6 wr)) (fun _ _ x12 _ => D.length - (intOf x12).toNat)
    case atStart => exact ⟨-1, 0, 0, 0, rfl, rfl, rfl, Nat.zero_le _, Nat.le_refl _, Nat.zero_le _, hide_ (fun j _ _ => by omega), HR0, Below.refl _ _⟩
    case round =>
      obtain ⟨t, k, i, lo, rfl, rfl, rfl, hi, hklo, hkt, HAt, HRi, HB⟩ := hrel
      generalize wr = wq at *
      have c0 := (HK6.out.later HB.out).cell 0
      simp at c0
      by_cases hlt : i < D.length
      · have hlt' : (i : Int) < D.length := by omega
        have hlt0 : i < D0.length := by rw [← HDl.out]; exact hlt
        obtain ⟨b, o, rfl, hb, hc⟩ := (HD6.out.later HB.out).open (by omega)
        have hx : D[i]? = some (dfP ts s.size (D0[i]'hlt0)) := by rw [HD0.out]; simp [hlt0]
        obtain ⟨va, vc, hcx, hvc, -, hN⟩ := hc i _ hx
        obtain ⟨hi1, hR⟩ := HRi.out
        rw [List.drop_eq_getElem_cons hlt0] at hR
        generalize D0[i]'hlt0 = d at *
        obtain ⟨a1, m, r1, r2, r3, r4, r5, r6, r7⟩ := hR
        rw [List.length_map] at r3
        have hpa : ((dfP ts s.size d).a : Int) = (pl ts a1 : Int) := by show ((plc ts s.size d.a.toNat : Nat) : Int) = _; rw [r1, Int.toNat_natCast, plc_pl r3]
        rw [qAt_core r3] at r4
        obtain ⟨t1, t2, t3⟩ := HTx.out a1 r3
        have r4' : (ts.getD a1 tk0).t = d.name := r4
        rw [r4'] at t2 t3
        have hat := HAt.out a1 r2 r3
        have i0 := hcx 0 (by decide); have i1 := hcx 1 (by decide); have i2 := hcx 2 (by decide)
        simp [dfc] at i0 i1 i2
        have e0 : (dfP ts s.size d).name = d.name := rfl
        have e2 : (dfP ts s.size d).ty.length = d.ty.length := by simp [dfP]
        have e2' := e2
        rw [e0] at i0
        rw [hpa] at i1
        rw [e2] at i2
        have HNr : Hid (NRow wq va (d.ty.map (ndP ts s.size))) := hide_ hN
        have HR6 := hide_ r6
        have HR7 := hide_ (show ∃ hi, RiseD (ts.map core) m (D0.drop (i + 1)) hi from ⟨hi1, r7⟩)
        have HAt2 : Hid (∀ j, a1 + 1 ≤ j → j < ts.length → ((pl ts a1 : Nat) : Int) < pl ts j) := hide_ (fun j hj hjt => by have := HPr.out a1 j (by omega) hjt; omega)
        have hkl2 : k ≤ a1 + 1 := by omega
        have hTy : d.ty.length ≤ 9223372036854775807 := by have := HL2.out.2 (dfP ts s.size d) (List.mem_of_getElem? hx); rwa [e2] at this
        generalize pl ts a1 = P at *
        obtain ⟨nm, hnm⟩ : ∃ nm, d.name = nm := ⟨_, rfl⟩
        rw [hnm] at i0 t2 t3
        have n1 : ¬ (P : Int) ≤ t := by omega
        obtain ⟨Q, hQ⟩ : ∃ Q, P + nm.size = Q := ⟨_, rfl⟩
        have n5 : IntKind.i64.wrap ((P : Int) + nm.size) = (Q : Int) := (i64w _ (by omega)).trans (by omega)
        rw [hQ] at t2 t3
        have n2 : ¬ (s.size : Int) < (Q : Int) := by omega
        have n3 : (P : Int) ≤ Q := by omega
        have n4 : (Q : Int) ≤ s.size := by omega
        have n6 : P ≤ Q ∧ Q ≤ s.size := by omega
        have n7 : 0 ≤ (P : Int) ∧ (P : Int) ≤ (Q : Int) ∧ (Q : Int) ≤ s.size := by omega
        clear hQ
        have HCx : Hid (∀ w', Below wq.heap.size wq w' → w'.cell? ⟨b, o + i * 3 + 2, none⟩ = some (.slice va d.ty.length vc)) := hide_ (fun w' hB => by
          have h := (hB.cell (p := ⟨b, o + i * 3 + 2, none⟩) hb).trans (hcx 2 (by decide))
          simp [dfc] at h
          rw [h, e2'])
        clear hc hx hcx hN r1 r2 r3 r4 r4' r5 r6 r7 e0 e2 e2' hpa hat HAt HRi hnm
        go_wp2_with fail
        go_cut [136] from 79 to 136 (fun x136 wc => x136 = .bool false ∧ ∃ n, wq.drewN n = wc)
        case first =>
          as_aux_lemma =>
          go_quiet (fail)
          go_wp2
          go_meet
          case rel => exact ⟨by simp; omega, _, rfl⟩
        case rest =>
        obtain ⟨rfl, nq, rfl⟩ := hcut
        clear i0 n2 n3 n4 n5 n6 n7 t1 t2 t3 HCon HB2 hcap hi0 hi
        go_wp2_with fail
        clear c0 i1 i2 n1 hlt'
        go_loopw [10, 11, 13] (fun x10 x11 x13 wr => ∃ (t : Int) (k j lo : Nat), x10 = .int .i64 t ∧ x11 = .int .i64 (k : Int) ∧ x13 = .int .i64 (j : Int) ∧ j ≤ d.ty.length ∧ k ≤ lo ∧ k ≤ ts.length ∧ Hid (∀ j, lo ≤ j → j < ts.length → t < pl ts j) ∧ Hid (RiseN (ts.map core) lo (d.ty.drop j) m) ∧ Hid (Below wq.heap.size wq wr)) (fun _ _ x13 _ => d.ty.length - (intOf x13).toNat)
        case atStart => exact ⟨P, k, 0, a1 + 1, rfl, rfl, rfl, Nat.zero_le _, hkl2, hkt, HAt2, by rw [List.drop_zero]; exact HR6, hide_ (below_drewN (Below.refl _ _) _)⟩
        case round =>
          clear HAt2 HR6 hkl2 hkt hklo
          obtain ⟨t2, k2, j, lo2, rfl, rfl, rfl, hj, hklo2, hkt2, HAt2, HRn, HBz⟩ := hrel
          generalize wr = wz at *
          have HB6z := hide_ (below_to HB.out HBz.out)
          have c0 := (HK6.out.later HB6z.out).cell 0
          have i2 := HCx.out wz HBz.out
          simp at c0
          by_cases hjl : j < d.ty.length
          · have hjl' : (j : Int) < d.ty.length := by omega
            obtain ⟨bn, on, hva, hbn, hcn⟩ := (HNr.out.later HBz.out).open (by simp; omega)
            subst hva
            have hx : (d.ty.map (ndP ts s.size))[j]? = some (ndP ts s.size (d.ty[j]'hjl)) := by simp [hjl]
            have hcx := hcn j _ hx
            have hR := HRn.out
            rw [List.drop_eq_getElem_cons hjl] at hR
            generalize d.ty[j]'hjl = x at *
            obtain ⟨a2, r1, r2, ⟨r3, r4, r5⟩, r6⟩ := hR
            rw [List.length_map] at r3
            rw [qAt_core r3] at r4 r5
            have hpa : (ndP ts s.size x).a = (pl ts a2 : Int) := by show ((plc ts s.size x.a.toNat : Nat) : Int) = _; rw [r1, Int.toNat_natCast, plc_pl r3]
            obtain ⟨P2, hP2⟩ : ∃ P2, pl ts a2 = P2 := ⟨_, rfl⟩
            have hat := HAt2.out a2 r2 r3
            obtain ⟨tx1, -, -⟩ := HTx.out a2 r3
            have HLow : Hid (∀ q, q < a2 → pl ts q < P2) := hide_ (fun q hq => by rw [← hP2]; exact HPr.out q a2 hq r3)
            have HNx : Hid (∀ j, a2 + 1 ≤ j → j < ts.length → ((P2 : Nat) : Int) < pl ts j) := hide_ (fun j hj hjt => by rw [← hP2]; have := HPr.out a2 j (by omega) hjt; omega)
            rw [hP2] at hpa hat tx1
            have p0 := hcx 0 (by decide); have p1 := hcx 1 (by decide); have p2 := hcx 2 (by decide); have p3 := hcx 3 (by decide); have p4 := hcx 4 (by decide); have p5 := hcx 5 (by decide); have p6 := hcx 6 (by decide)
            simp [ndc] at p0 p1 p2 p3 p4 p5 p6
            rw [hpa] at p6
            have g0 : (ndP ts s.size x).k = x.k := rfl
            have g1 : (ndP ts s.size x).n = x.n := rfl
            have g2 : (ndP ts s.size x).name = x.name := rfl
            have g3 : (ndP ts s.size x).label = x.label := rfl
            have g4 : (ndP ts s.size x).tag = x.tag := rfl
            have g5 : (ndP ts s.size x).kids = x.kids := rfl
            rw [g0] at p0
            rw [g1] at p1
            rw [g2] at p2
            rw [g3] at p3
            rw [g4] at p4
            rw [g5] at p5
            have HR4 := hide_ r4
            have HR5 := hide_ r5
            have HR6n := hide_ r6
            have HP2 := hide_ hP2
            have m1 : ¬ (P2 : Int) ≤ t2 := by omega
            have m2 : ¬ (s.size : Int) ≤ (P2 : Int) := by omega
            have hk2a : k2 ≤ a2 := by omega
            have kx := Blk.newA wz #[.int .i64 x.k, .int .i64 x.n, .string x.name, .string x.label, .int .i64 x.tag, .int .i64 x.kids, .int .i64 (P2 : Int)] 40
            have hBx : Below wz.heap.size wz (wz.alloc (.cells #[.int .i64 x.k, .int .i64 x.n, .string x.name, .string x.label, .int .i64 x.tag, .int .i64 x.kids, .int .i64 (P2 : Int)] 40)) := (Below.refl _ wz).alloc (Nat.le_refl _) _
            obtain ⟨wy, hwy⟩ : ∃ wy, wy = wz.alloc (.cells #[.int .i64 x.k, .int .i64 x.n, .string x.name, .string x.label, .int .i64 x.tag, .int .i64 x.kids, .int .i64 (P2 : Int)] 40) := ⟨_, rfl⟩
            rw [← hwy] at kx hBx
            have y6 := kx.cell 6
            simp at y6
            have HKx := hide_ kx
            have HBy := hide_ (below_to HBz.out hBx)
            have HB6y := hide_ (below_to HB6z.out hBx)
            clear hcx hcn hx hpa hat hbn g0 g1 g2 g3 g4 g5 r1 r2 r4 r5 r6 hP2 kx hBx HAt2 HRn hklo2
            go_upto_region 22 with fail
            rw [← hwy]
            clear hwy p0 p1 p2 p3 p4 p5 p6 c0 i2
            go_wp2_with fail
            clear y6 m1 m2
            go_loopw [11] (fun x11 wr => ∃ q : Nat, q ≤ a2 ∧ x11 = .int .i64 (q : Int) ∧ Hid (Below wy.heap.size wy wr)) (fun x11 _ => a2 - (intOf x11).toNat)
            case atStart => exact ⟨k2, hk2a, rfl, Below.refl _ _⟩
            case round =>
              obtain ⟨q, hq, rfl, HBj⟩ := hrel
              generalize wr = wj at *
              obtain ⟨b0, o0, ha0, hb0, hc0⟩ := (HT6.out.later (below_to HB6y.out HBj.out)).open (by omega)
              subst ha0
              have hql : (q : Int) < ts.length := by omega
              obtain ⟨x0, x1, x2, x3, x4⟩ := hc0 q (by omega)
              rcases Nat.lt_or_ge q a2 with hqa | hqa
              · have hlt2 : ((ts.getD q tk0).a : Int) < P2 := by have := HLow.out q hqa; unfold pl at this; omega
                generalize ts.getD q tk0 = tq at *
                clear hc0 x0 x1 x2 x4
                go_wp2_with fail
                go_wp2
                go_roundw
                case rel => exact ⟨q + 1, by omega, by go_num, HBj⟩
                case measure => simp [intOf]; omega
              · obtain rfl : q = a2 := by omega
                have hx3 : ((ts.getD q tk0).a : Int) = P2 := by have := HP2.out; unfold pl at this; omega
                rw [hx3] at x3
                have hql2 : ¬ (q : Int) = ts.length := by omega
                have HRl : Hid (x.label.size ≠ 0 → (ts.getD q tk0).t = x.label) := HR4
                have HRn2 : Hid (x.label.size = 0 → x.k = 9 → (ts.getD q tk0).k = 1 → (ts.getD q tk0).t = x.name) := HR5
                generalize ts.getD q tk0 = tq at *
                have z0 := (HKx.out.later HBj.out).cell 0; have z2 := (HKx.out.later HBj.out).cell 2; have z3 := (HKx.out.later HBj.out).cell 3
                simp at z0 z2 z3
                clear hc0 x2 x4 hx3 HR4 HR5 HLow
                have HMj : Hid (j + 1 ≤ d.ty.length) := hide_ hjl
                obtain ⟨lb, hlb⟩ : ∃ lb, x.label = lb := ⟨_, rfl⟩
                rw [hlb] at z3 HRl HRn2
                clear hlb hqa hql2
                have hq1 : ((q : Int) == ts.length) = false := by
                  have : (q : Int) ≠ ts.length := by omega
                  simpa using this
                go_wp2_with fail
                go_cut [246] from 191 to 246 (fun x246 wc => x246 = .bool false ∧ ∃ n, wj.drewN n = wc)
                case first =>
                  as_aux_lemma =>
                  by_cases hl0 : lb.size = 0
                  · obtain rfl : lb = ⟨#[]⟩ := by
                      apply ByteArray.ext
                      apply Array.toList_inj.1
                      rw [Lib.size_eq] at hl0
                      exact List.length_eq_zero_iff.1 hl0
                    by_cases h9 : x.k = 9
                    · by_cases h1 : tq.k = 1
                      · have ht := HRn2.out rfl h9 h1
                        rw [ht] at x1
                        rw [h1] at x0
                        rw [h9] at z0
                        clear ht h1 h9 hl0 HRl HRn2
                        go_quiet (fail)
                        go_wp2
                        go_meet
                        case rel => exact ⟨by simp, _, rfl⟩
                      · have h1' : (tq.k == 1) = false := by simpa using h1
                        rw [h9] at z0
                        clear h1 h9 hl0 HRl HRn2
                        go_quiet (fail)
                        go_wp2
                        go_meet
                        case rel => exact ⟨by simp, _, rfl⟩
                    · have h9' : (x.k == 9) = false := by simpa using h9
                      clear h9 hl0 HRl HRn2
                      go_quiet (fail)
                      go_wp2
                      go_meet
                      case rel => exact ⟨by simp, _, rfl⟩
                  · have ht := HRl.out hl0
                    rw [ht] at x1
                    obtain ⟨n0, n1⟩ := name_ne (s := lb) (by omega)
                    clear ht hl0 HRl HRn2
                    go_quiet (fail)
                    go_wp2
                    go_meet
                    case rel => exact ⟨by simp, _, rfl⟩
                case rest =>
                obtain ⟨rfl, nq2, rfl⟩ := hcut
                go_wp2
                go_roundw
                case rel => exact ⟨P2, q, j + 1, q + 1, rfl, rfl, by go_num, HMj.out, by omega, by omega, HNx, HR6n, hide_ (below_drewN (below_to HBy.out HBj.out) _)⟩
                case measure => simp [intOf]; omega
          · obtain rfl : j = d.ty.length := by omega
            rw [List.drop_length] at HRn
            have hlm : lo2 ≤ m := HRn.out
            have HMs : Hid (i + 1 ≤ D.length) := hide_ hlt
            go_wp2
            go_roundw
            case rel => exact ⟨t2, k2, i + 1, m, rfl, rfl, by go_num, HMs.out, by omega, hkt2, hide_ (fun j hj hjt => HAt2.out j (by omega) hjt), HR7, hide_ (below_to HB.out HBz.out)⟩
            case measure => simp [intOf]; omega
      · obtain rfl : i = D.length := by omega
        go_wp2
        go_ret
        exact ⟨by simp, below_to HB6.out HB.out⟩
  · have hE' : ((E : Int) != 0) = true := by simpa using hE
    obtain ⟨hd, ha⟩ := HF.out hE
    subst hd
    have ha1 : (0 : Int) ≤ (A : Int) := by omega
    have ha2 : (A : Int) ≤ s.size := by omega
    simp only [List.length_nil] at *
    go_wp2
    go_ret
    exact ⟨by simp, HB3.out⟩
end Go.Proofs.Ytokepgimjdalaaa
