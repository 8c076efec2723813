import Derived.Test.YtomfidjmbjpceaaDoorJu1
import Derived.Test.YtomfidjmbjpceaaDoorTl2
import Derived.Test.YtomfidjmbjpceaaDoorTk
import Derived.Test.YtomfidjmbjpceaaDoorOt
import Derived.Laws.Closers25b
import Derived.Test.YtomfidjmbjpceaaDoorZrs
import Derived.Test.YtomfidjmbjpceaaDoorRead
import Derived.Test.YtomfidjmbjpceaaDoorCards
import Derived.Test.YtomfidjmbjpceaaDoorTie
import Derived.SizedLaws
import Derived.WalkKit
import Derived.ProofKit
import Derived.ChangeMaps5
import Derived.Below
import Derived.OpenShut
import Derived.ShutString
import Derived.Deep.DeepHandedRow
import Derived.Lib.LaidTab
import Derived.Stop.LaidErr
/- TypingSome: its walk. -/
namespace Go.Proofs.YtomfidjmbjpceaaDoor
open Go.RowKit
set_option linter.unusedVariables false

theorem min_if3 (n m : Nat) (h : min n 300 = m) : (if (300 : Int) < (n : Int) then (300 : Int) else (n : Int)) = (m : Int) := by split <;> omega
theorem min_if4 (n m : Nat) (h : min n 300 = m) : (if 300 < n then (300 : Int) else (n : Int)) = (m : Int) := by split <;> omega
theorem iownf {w : World} {B g n cap : Nat} {l : List Int} (h : IOwn w B (.slice (some ⟨g, 0, none⟩) n cap) l) (hl : 0 < l.length) (i : Nat) : w.frozen? ⟨g, i, none⟩ = false := by
  obtain ⟨a, c, e, -, -, -, -, h2⟩ := own_open h rfl
  obtain ⟨g', e2, -, -, hc, hf⟩ := h2 (by omega)
  injection e with e1 _ _
  rw [e2] at e1
  injection e1 with e1
  injection e1 with e1 _ _
  subst e1
  exact hf i
set_option maxRecDepth 100000 in
set_option maxHeartbeats 16000000 in
theorem tsome_any (aT : Option Addr) (cT : Nat) (T : List Ty) (aR : Option Addr) (cR : Nat) (R : List Rt) (t : Int) (aP : Option Addr) (cPk : Nat) (p : List Int) (w : World) (hn : T.length ≤ 1000000000000000) (hm : R.length ≤ 1000000000000000) (hcR : R.length ≤ cR) (hnil : aR = none → cR = 0) (hl : Hid (LensT T)) (hT : Hid (TRow w aT T)) (hRr : Hid (RRow w aR R)) (hpn : p.length ≤ 1000000000000000) (hpc : p.length ≤ cPk) (hpnil : aP = none → cPk = 0) (hPr : Hid (Row .i64 w aP p)) (ht : Hid (Tab w)) :
    Calls Tryd.prog 3 #[.agg #[.slice aT T.length cT, .slice aR R.length cR], .int .i64 t, .slice aP p.length cPk] w fun e w' => e = .returned (.bool true) ∧ Below w.heap.size w w' := by
  obtain ⟨w2, hw2⟩ : ∃ wx, wx = w.alloc (.cells #[.slice aT T.length cT, .slice aR R.length cR] 25) := ⟨_, rfl⟩
  have hB2 : Below w.heap.size w w2 := by rw [hw2]; exact below1 _ _
  have k1 : Blk w2 w.heap.size 25 [.slice aT T.length cT, .slice aR R.length cR] := by rw [hw2]; exact Blk.newA w _ _
  have K1 := hide_ k1
  have HB2 := hide_ hB2
  have HAw := hide_ (awake_any w2 (hide_ (ht.out.later hB2)))
  have hw0 : 0 < w.heap.size := ht.out.lt
  clear k1 hB2
  go_enter Tryd.func3, Tryd.ntmps3
  go_upto_region 1 with fail
  rw [← hw2]
  clear hw2
  go_wp2_with fail
  refine HAw.out.mono ?_
  rintro e w3 ⟨rfl, hB3⟩
  have HB3 := hide_ (below_to HB2.out hB3)
  have k3 := K1.out.later hB3
  have i0 := k3.cell 0; have i1 := k3.cell 1
  simp at i0 i1
  have HCu := hide_ (cut_any aT cT T aR cR R w w3 hn hm hcR hnil hl HB3 hT (hide_ (hRr.out.later HB3.out)))
  clear hB3 HAw k3 K1
  go_wp2_with fail
  refine HCu.out.mono ?_
  rintro e w4 ⟨a9, c9, ar9, cr9, Q9, rfl, HT4, HQ9, HR4, HB4⟩
  have hTl : (cutT T).length ≤ 120 := by simp [cutT]; omega
  have hRl : (R.take 260).length ≤ 260 := by simp; omega
  have HLs : Hid (LensT (cutT T)) := hide_ (cutT_lens T)
  have HPs : Hid (∀ t ∈ cutT T, t.ps.length ≤ 1000000) := hide_ (fun t ht => by
    simp only [cutT, List.mem_map] at ht
    obtain ⟨u, _, rfl⟩ := ht
    simp [cut1]
    omega)
  generalize cutT T = U at *
  generalize R.take 260 = Rc at *
  have k5 := Blk.newA w4 #[.slice a9 U.length c9, .slice ar9 Rc.length cr9] 25
  have b5 := below1 w4 (.cells #[.slice a9 U.length c9, .slice ar9 Rc.length cr9] 25)
  obtain ⟨w5, hw5⟩ : ∃ wx, wx = w4.alloc (.cells #[.slice a9 U.length c9, .slice ar9 Rc.length cr9] 25) := ⟨_, rfl⟩
  rw [← hw5] at k5 b5
  obtain ⟨g9, hg9⟩ : ∃ g, w4.heap.size = g := ⟨_, rfl⟩
  rw [hg9] at k5
  have h9 : w.heap.size ≤ g9 := by rw [← hg9]; exact (below_to HB3.out HB4.out).size
  have KS := hide_ k5
  have HB5 := hide_ (below_to HB3.out (below_to HB4.out b5))
  have HT5 := hide_ (HT4.out.later b5)
  have HR5 := hide_ (HR4.out.later b5)
  have HLg := hide_ (light_all a9 c9 U ar9 cr9 Rc t w5 (by omega) (by omega) HLs (hide_ (town_row HT5.out HQ9.out)) (hide_ (rown_row HR5.out)))
  have s0 := k5.cell 0; have s1 := k5.cell 1
  simp at s0 s1
  clear k5 b5 i0 i1 HCu HT4 HR4
  go_upto_region 4 with fail
  rw [← hw5]
  clear hw5
  go_wp2_with fail
  refine HLg.out.mono ?_
  rintro e w5b ⟨⟨bb, rfl⟩, HB5b⟩
  have HB5c := hide_ (below_to HB5.out HB5b.out)
  cases bb with
  | false =>
    go_wp2
    go_ret
    exact ⟨rfl, HB5c.out⟩
  | true =>
    have KSb := hide_ (KS.out.later HB5b.out)
    have HT5b := hide_ (HT5.out.later HB5b.out)
    have HR5b := hide_ (HR5.out.later HB5b.out)
    obtain ⟨m, hmm⟩ : ∃ m, min p.length 300 = m := ⟨_, rfl⟩
    have hmA := min_if3 p.length m hmm
    have hmB := min_if4 p.length m hmm
    have hml : m ≤ 300 := by omega
    have hmc : (m : Int) ≤ cPk := by omega
    have hm0 : (0 : Int) ≤ m := by omega
    have hVl : (p.take 300).length = m := by rw [List.length_take]; omega
    have hVr : Row .i64 w5b aP (p.take 300) := (hPr.out.later HB5c.out).take 300
    generalize p.take 300 = P0 at *
    obtain ⟨v6, w6, hr6, ho6, hg6⟩ := run_copy elI w5b 26 w5b.heap.size aP m cPk P0 hVl hVr hpnil (by unfold maxLen; omega) (by omega) (Nat.le_refl _)
    have hb6 : Below w5b.heap.size w5b w6 := ((Upd.refl (fun _ => False) w5b).grown hg6 (fun k hk => by cases hk)).below _ (Nat.le_refl _) (fun k hk => hk.elim)
    have HR6 := hide_ hr6
    have HV6 : Hid (IOwn w6 w5b.heap.size v6 P0) := hide_ (by unfold IOwn; rw [hVl]; exact ho6)
    have HB6 := hide_ (below_to HB5c.out hb6)
    have KS6 := hide_ (KSb.out.later hb6)
    have HT6 := hide_ (HT5b.out.later hb6)
    have HR6r := hide_ (HR5b.out.later hb6)
    have HTm := hide_ (tame_any a9 c9 U (.slice ar9 Rc.length cr9) v6 P0 w5b.heap.size w6 (by omega) (by omega) hb6.size (hide_ (town_row HT6.out HQ9.out)) HV6)
    obtain ⟨av, cv, ev⟩ := HV6.out.slice
    rw [hVl] at ev
    subst ev
    have HVlo : Hid (∀ k, (Value.slice av m cv).ownBlock = some k → w5b.heap.size ≤ k) := hide_ (fun k hk => (HV6.out.lies hk).1)
    have hz5 : w.heap.size ≤ w5b.heap.size := HB5c.out.size
    have hz6 : w5b.heap.size ≤ w6.heap.size := hb6.size
    clear hr6 ho6 hg6 hVr s0 s1
    have s0 := KS6.out.cell 0; have s1 := KS6.out.cell 1
    simp at s0 s1
    go_wp2_with (first | (at_builtin; refine wpList_append_run rfl (.const (.slice none 0 0)) (.tmp 29) 26 26 rfl rfl rfl HR6.out ?_; clear HR6) | fail)
    refine HTm.out.mono ?_
    rintro e w7 ⟨P1, rfl, HO7, HL7, HU7⟩
    have hP1 : P1.length = m := by rw [HL7.out, hVl]
    have HB57 : Hid (Below w5b.heap.size w5b w7) := hide_ (below_to3 hb6 HU7.out (fun k hk => HVlo.out k hk))
    have HB7 := hide_ (below_to HB5c.out HB57.out)
    have KS7 := hide_ (KSb.out.later HB57.out)
    have HT7 := hide_ (HT5b.out.later HB57.out)
    have HR7 := hide_ (HR5b.out.later HB57.out)
    have hz7 : w5b.heap.size ≤ w7.heap.size := HB57.out.size
    clear s0 s1 hVl HV6 HTm HU7 KS6 HT6 HR6r hb6
    have s0 := KS7.out.cell 0; have s1 := KS7.out.cell 1
    simp at s0 s1
    have hrn7 : ar9 = none → cr9 = 0 := by
      obtain ⟨a9', c9', e9', -, h9', -⟩ := own_grow rtc_len HR7.out
      injection e9' with e1 e2 e3
      intro h
      rw [e3]
      exact h9' (by rw [← e1]; exact h)
    obtain ⟨av', cv', ev', hPr7, hpn7, -⟩ := HO7.out.row
    rw [hP1] at ev'
    injection ev' with ev1 _ ev3
    subst ev1 ev3
    subst hP1
    have HLe := hide_ (lent_any a9 c9 U ar9 cr9 Rc w7 (by omega) (by omega) hrn7 HPs (hide_ (town_row HT7.out HQ9.out)) (hide_ (rown_row HR7.out)) none 0 [] (by simp) (fun _ => rfl) (hide_ (.inl rfl)) av cv P1 (by omega) hpn7 (hide_ hPr7))
    clear hPr7
    go_wp2_with fail
    refine HLe.out.mono ?_
    rintro e w8a ⟨gT, cT7, Q, gR, cR7, gV, cV, gP, cP, rfl, HL8, HQ7, HN8, HI8, HB8a⟩
    have k8 := Blk.newA w8a #[.slice (some ⟨gT, 0, none⟩) U.length cT7, .slice (some ⟨gR, 0, none⟩) Rc.length cR7, .slice (some ⟨gV, 0, none⟩) 0 cV, .slice (some ⟨gP, 0, none⟩) P1.length cP] 33
    have b8 := below1 w8a (.cells #[.slice (some ⟨gT, 0, none⟩) U.length cT7, .slice (some ⟨gR, 0, none⟩) Rc.length cR7, .slice (some ⟨gV, 0, none⟩) 0 cV, .slice (some ⟨gP, 0, none⟩) P1.length cP] 33)
    obtain ⟨w8, hw8⟩ : ∃ wx, wx = w8a.alloc (.cells #[.slice (some ⟨gT, 0, none⟩) U.length cT7, .slice (some ⟨gR, 0, none⟩) Rc.length cR7, .slice (some ⟨gV, 0, none⟩) 0 cV, .slice (some ⟨gP, 0, none⟩) P1.length cP] 33) := ⟨_, rfl⟩
    rw [← hw8] at k8 b8
    obtain ⟨g11, hg11⟩ : ∃ g, w8a.heap.size = g := ⟨_, rfl⟩
    rw [hg11] at k8
    have hb78 := below_to HB8a.out b8
    have HM8 : Hid (TsM w8 w.heap.size g9 g11 a9 c9 Q9 U ar9 cr9 Rc w5b.heap.size av cv P1 w7.heap.size gT cT7 Q gR cR7 gV cV gP cP) := hide_ ⟨KS7.out.later hb78, k8, HT7.out.later hb78, HR7.out.later hb78, HO7.out.later hb78, HL8.out.later b8, HN8.out.later b8, HI8.out.later b8, ht.out.later (below_to HB7.out hb78), fun k hk => (HO7.out.lies hk).2⟩
    have HB8 := hide_ (below_to HB7.out hb78)
    have hzl : w.heap.size ≤ w7.heap.size := HB7.out.size
    obtain ⟨n, hnV⟩ : ∃ n, P1.length = n := ⟨_, rfl⟩
    have HV0n := hide_ hnV
    clear k8 b8 hb78 s0 s1 HLe HL8 HN8 HI8 KS7 HT7 HR7 HO7 KS HT5 HR5 KSb HT5b HR5b HLg HL7
    rw [hnV] at hml hmc hm0 hw8 ⊢
    go_upto_region 9 with fail
    rw [← hw8]
    clear hw8 hg11 hnV
    go_wp2_with fail
    go_loopw [10] (fun x10 wr => ∃ (i : Nat) (P : List Int), i ≤ 2 ∧ x10 = .int .i64 (i : Int) ∧ Hid (P.length = n) ∧ Hid (TsM wr w.heap.size g9 g11 a9 c9 Q9 U ar9 cr9 Rc w5b.heap.size av cv P w7.heap.size gT cT7 Q gR cR7 gV cV gP cP) ∧ Hid (Below w.heap.size w wr)) (fun x10 _ => 2 - (intOf x10).toNat)
    case atStart => exact ⟨0, P1, by omega, rfl, HV0n, HM8, HB8⟩
    case round =>
      obtain ⟨i, P, hi, rfl, HVn, HM, HB⟩ := hrel
      generalize wr = wq at *
      clear HM8 HB8 hmA hmB hmm
      by_cases hlt : i < 2
      · have hlt' : (i : Int) < 2 := by omega
        have hvn := HVn.out
        subst hvn
        have HAll : Hid (∀ w', Below wq.heap.size wq w' → TsM w' w.heap.size g9 g11 a9 c9 Q9 U ar9 cr9 Rc w5b.heap.size av cv P w7.heap.size gT cT7 Q gR cR7 gV cV gP cP) := hide_ (fun w' hb => HM.out.later hb)
        have HBx : Hid (∀ w', Below wq.heap.size wq w' → w'.cell? ⟨g11, 0, none⟩ = some (.slice (some ⟨gT, 0, none⟩) U.length cT7) ∧ w'.cell? ⟨g11, 1, none⟩ = some (.slice (some ⟨gR, 0, none⟩) Rc.length cR7) ∧ w'.cell? ⟨g11, 2, none⟩ = some (.slice (some ⟨gV, 0, none⟩) 0 cV) ∧ w'.cell? ⟨g11, 3, none⟩ = some (.slice (some ⟨gP, 0, none⟩) P.length cP) ∧ w'.cell? ⟨g9, 0, none⟩ = some (.slice a9 U.length c9) ∧ w'.cell? ⟨g9, 1, none⟩ = some (.slice ar9 Rc.length cr9)) := hide_ (fun w' hb => by
          have h := HAll.out w' hb
          have a0 := h.lbox.cell 0; have a1 := h.lbox.cell 1; have a2 := h.lbox.cell 2; have a3 := h.lbox.cell 3
          have b0 := h.sbox.cell 0; have b1 := h.sbox.cell 1
          simp at a0 a1 a2 a3 b0 b1
          exact ⟨a0, a1, a2, a3, b0, b1⟩)
        have HVr : Hid (∀ w', Below wq.heap.size wq w' → Row .i64 w' (some ⟨gP, 0, none⟩) P ∧ TRow w' (some ⟨gT, 0, none⟩) U ∧ RRow w' (some ⟨gR, 0, none⟩) Rc) := hide_ (fun w' hb => by
          have h := HAll.out w' hb
          obtain ⟨a2, c2, e2, g2, -, -⟩ := h.io.row
          injection e2 with e2 _ _
          rw [← e2] at g2
          have g3 := g2.take P.length
          rw [List.take_left] at g3
          have hr := h.lt.row
          rw [HQ7.out] at hr
          exact ⟨g3, hr.1, hr.2⟩)
        obtain ⟨A, hA⟩ : ∃ A, someT U Rc t P = A := ⟨_, rfl⟩
        have HCs : Hid (∀ w', Below wq.heap.size wq w' → Calls Tryd.prog 11 #[.agg #[.slice (some ⟨gT, 0, none⟩) U.length cT7, .slice (some ⟨gR, 0, none⟩) Rc.length cR7], .int .i64 t, .slice (some ⟨gP, 0, none⟩) P.length cP] w' fun e w2 => ∃ v', e = .returned (.tuple #[v', .int .i64 A.2]) ∧ Hid (NOwn w2 w'.heap.size v' A.1) ∧ Hid (Below w'.heap.size w' w2)) := hide_ (fun w' hb => by
          obtain ⟨h1, h2, h3⟩ := HVr.out w' hb
          have h := some_any (some ⟨gT, 0, none⟩) cT7 U (some ⟨gR, 0, none⟩) cR7 Rc t (some ⟨gP, 0, none⟩) P.length cP P w' (by omega) (by omega) HLs (hide_ h2) (hide_ h3) (hide_ rfl) (hide_ h1) (hide_ (HAll.out w' hb).tab)
          rw [hA] at h
          exact h)
        have HCr : Hid (∀ w', Below wq.heap.size wq w' → Calls Tryd.prog 12 #[.agg #[.slice a9 U.length c9, .slice ar9 Rc.length cr9], .int .i64 t, .slice av P.length cv] w' fun e w2 => ∃ v', e = .returned (.tuple #[v', .int .i64 A.2]) ∧ Hid (NOwn w2 w'.heap.size v' A.1) ∧ Hid (Below w'.heap.size w' w2)) := hide_ (fun w' hb => by
          have hx := HAll.out w' hb
          obtain ⟨a2, c2, e2, g2, -, -⟩ := hx.po.row
          injection e2 with e2 _ _
          rw [← e2] at g2
          have h := some11_any a9 c9 U ar9 cr9 Rc t av P.length cv P w' (by omega) (by omega) HLs (hide_ (town_row hx.tow HQ9.out)) (hide_ (rown_row hx.ro)) (hide_ rfl) (hide_ g2)
          rw [hA] at h
          exact h)
        have HKp : Hid (∀ w', Below wq.heap.size wq w' → Calls Tryd.prog 14 #[.agg #[.slice (some ⟨gT, 0, none⟩) U.length cT7, .slice (some ⟨gR, 0, none⟩) Rc.length cR7, .slice (some ⟨gV, 0, none⟩) 0 cV, .slice (some ⟨gP, 0, none⟩) P.length cP], .agg #[.slice a9 U.length c9, .slice ar9 Rc.length cr9], .slice none 0 0, .slice av P.length cv] w' fun e w2 => e = .returned (.bool true) ∧ Below w'.heap.size w' w2) := hide_ (fun w' hb => by
          have hx := HAll.out w' hb
          obtain ⟨a2, c2, e2, g2, -, -⟩ := hx.po.row
          injection e2 with e2 _ _
          rw [← e2] at g2
          exact kept_yes gT cT7 Q gR cR7 w7.heap.size a9 c9 U ar9 cr9 Rc w' (by omega) (by omega) HLs (hide_ hx.lt) HQ7 (hide_ (town_row hx.tow HQ9.out)) (hide_ (rown_row hx.ro)) gV cV none 0 [] (by simp) (hide_ hx.no) (hide_ (.inl rfl)) gP cP av cv P (by omega) (hide_ hx.io) (hide_ g2))
        have hAl : A.1.length ≤ 1048576 := by rw [← hA]; exact someT_len _ _ _ _
        clear hA
        obtain ⟨N, E⟩ := A
        simp only at hAl
        simp only at HCs HCr
        have HD0 : Hid (Below wq.heap.size wq wq) := hide_ (Below.refl _ _)
        obtain ⟨x0, x1, x2, x3, y0, y1⟩ := HBx.out wq HD0.out
        go_wp2_with fail
        refine (HCs.out wq HD0.out).mono ?_
        rintro e w21 ⟨vl, rfl, HOvl, HD21⟩
        have hz21 : wq.heap.size ≤ w21.heap.size := HD21.out.size
        have HLl : Hid (∀ k, vl.ownBlock = some k → k < w21.heap.size) := hide_ (fun k hk => (World.ownsRow.lt HOvl.out k hk).2)
        clear x0 x1 x2 x3 y0 y1
        obtain ⟨x0, x1, x2, x3, y0, y1⟩ := HBx.out w21 HD21.out
        go_wp2_with fail
        refine (HCs.out w21 HD21.out).mono ?_
        rintro e w22 ⟨vm, rfl, HOvm, HC22⟩
        have HD22 := hide_ (below_to HD21.out HC22.out)
        have hz22 : w21.heap.size ≤ w22.heap.size := HC22.out.size
        clear x0 x1 x2 x3 y0 y1
        obtain ⟨x0, x1, x2, x3, y0, y1⟩ := HBx.out w22 HD22.out
        go_wp2_with fail
        refine (HCr.out w22 HD22.out).mono ?_
        rintro e w23 ⟨vx, rfl, HOvx, HC23⟩
        have HD23 := hide_ (below_to HD22.out HC23.out)
        have hz23 : w22.heap.size ≤ w23.heap.size := HC23.out.size
        clear x0 x1 x2 x3 y0 y1
        have HOvl := hide_ ((HOvl.out.later HC22.out).later HC23.out)
        have HOvm := hide_ (HOvm.out.later HC23.out)
        obtain ⟨al, cl, el, hrl⟩ := HOvl.out.row
        obtain ⟨am, cm, em, hrm⟩ := HOvm.out.row
        obtain ⟨ax, cx, ex, hrx⟩ := HOvx.out.row
        subst el em ex
        have HRl := hide_ hrl
        have HRm := hide_ hrm
        have HRx := hide_ hrx
        have hne1 : (E != E) = false := by simp
        clear hrl hrm hrx HC22 HC23
        go_wp2_with fail
        refine (equal_yes al ax cl cx N.length N w23 (hide_ rfl) (by omega) HRl HRx).mono ?_
        rintro e w24 ⟨rfl, hb24⟩
        have HD24 := hide_ (below_to HD23.out hb24)
        have HOvl := hide_ (HOvl.out.later hb24)
        have HOvm := hide_ (HOvm.out.later hb24)
        have hz24 : w23.heap.size ≤ w24.heap.size := hb24.size
        have HRm := hide_ (HRm.out.later hb24)
        have HRx := hide_ (HRx.out.later hb24)
        clear hb24
        go_wp2_with fail
        refine (equal_yes am ax cm cx N.length N w24 (hide_ rfl) (by omega) HRm HRx).mono ?_
        rintro e w25 ⟨rfl, hb25⟩
        have HD25 := hide_ (below_to HD24.out hb25)
        have HOvl := hide_ (HOvl.out.later hb25)
        have HOvm := hide_ (HOvm.out.later hb25)
        have hz25 : w24.heap.size ≤ w25.heap.size := hb25.size
        clear hb25
        obtain ⟨x0, x1, x2, x3, y0, y1⟩ := HBx.out w25 HD25.out
        go_wp2_with fail
        refine (HKp.out w25 HD25.out).mono ?_
        rintro e w26 ⟨rfl, hb26⟩
        have HD26 := hide_ (below_to HD25.out hb26)
        have HOvl := hide_ (HOvl.out.later hb26)
        have HOvm0 := hide_ (HOvm.out.later hb26)
        have HOvm : Hid (NOwn w26 wq.heap.size (.slice am N.length cm) N) := hide_ (own_base (HOvm.out.later hb26) (by omega))
        have HAp := hide_ (apartN_yes (.slice al N.length cl) (.slice am N.length cm) N.length wq.heap.size N N w26 (hide_ rfl) (hide_ rfl) (by omega) HD26.out.size HOvl HOvm (hide_ (fun k h1 h2 => by
          have := HLl.out k h1
          have := (World.ownsRow.lt HOvm0.out k h2).1
          omega)))
        clear hb26 x0 x1 x2 x3 y0 y1
        go_wp2_with fail
        refine HAp.out.mono ?_
        rintro e w27 ⟨rfl, HU27⟩
        have HD27 : Hid (Below wq.heap.size wq w27) := hide_ (HD26.out.trans (HU27.out.below _ HD26.out.size (fun k hk => by
          rcases hk with h | h
          · exact (World.ownsRow.lt HOvl.out k h).1
          · exact (World.ownsRow.lt HOvm.out k h).1)))
        have HM27 := hide_ (HAll.out w27 HD27.out)
        have HB27 := hide_ (below_to HB.out HD27.out)
        clear HAp HU27 HOvl HOvm HOvm0 HOvx HRl HRm HRx HLl HAll HBx HVr HCs HCr HKp HD26 HD25 HD24 HD23 HD22 HD21 HM HB
        go_upto_region 17 with fail
        go_cut [101] from 99 to 101 (fun c wc => ∃ d, c = .bool d ∧ Hid (decide (0 < P.length) = d) ∧ w27 = wc)
        case first =>
          go_wp2_with fail
          go_meet
          case rel => exact ⟨_, rfl, hide_ (by simp), rfl⟩
        case rest =>
        obtain ⟨d, rfl, HDv, rfl⟩ := hcut
        cases d with
        | false =>
          go_wp2_with fail
          go_roundw
          case rel => exact ⟨i + 1, P, by omega, by go_num, hide_ rfl, HM27, HB27⟩
          case measure => simp [intOf]; omega
        | true =>
          have hv0 : 0 < P.length := of_decide_eq_true HDv.out
          have hv0' : (0 : Int) < (P.length : Int) := by omega
          obtain ⟨gv, hgv⟩ : ∃ g, av = some ⟨g, 0, none⟩ := by
            obtain ⟨g, c', ys, e, _⟩ := ownS_blk HM27.out.po hv0
            injection e with e _ _
            exact ⟨g, e⟩
          subst hgv
          have p0 := HM27.out.po.at hv0
          have pf := (iownf HM27.out.po hv0)
          obtain ⟨q, hq⟩ : ∃ q, P.getD 0 0 = q := ⟨_, rfl⟩
          rw [hq] at p0
          obtain ⟨n2, hn2⟩ : ∃ n2, bits BinOp.xor IntKind.i64 q 1 = n2 := ⟨_, rfl⟩
          obtain ⟨hMp, hgBv, hgBL⟩ := HM27.out.put hw0 hz5 hzl hv0 n2
          have hVo1 := (HM27.out.po.set hv0 n2).at (i := 0) (by rw [List.length_set]; exact hv0)
          rw [show (P.set 0 n2).getD 0 0 = n2 by cases P with | nil => simp at hv0 | cons a l => rfl] at hVo1
          have hlb : (w27.setCell ⟨gv, 0, none⟩ (.int .i64 n2)).cell? ⟨g11, 3, none⟩ = some (.slice (some ⟨gP, 0, none⟩) P.length cP) := by
            obtain ⟨ys, hy⟩ := ownS_type HM27.out.po (k := gv) rfl
            have h := (blk_ne_upd HM27.out.lbox ((Upd.refl (fun q => q = gv) w27).set ⟨gv, 0, none⟩ (.int .i64 n2) (.inl rfl)) hy (by decide)).cell 3
            simpa using h
          have hNo1 : IOwn (w27.setCell ⟨gv, 0, none⟩ (.int .i64 n2)) w7.heap.size (.slice (some ⟨gP, 0, none⟩) (P.length + 1) cP) (P ++ [23130]) := HM27.out.io.upd ((Upd.refl (fun q => q = gv) w27).set ⟨gv, 0, none⟩ (.int .i64 n2) (.inl rfl)) (fun k hk e => by
            have e1 := own_is hk
            have e2 := HM27.out.lo gv rfl
            omega)
          have hgf := iownf hNo1 (by simp)
          have n0 := hNo1.at (i := 0) (by simp)
          have HMn := hide_ hMp
          have HLn2 : Hid ((P.set 0 n2).length = P.length) := hide_ (by rw [List.length_set])
          have HBn := hide_ (HB27.out.trans ((((Upd.refl (fun q => q = gv ∨ q = gP) w27).set ⟨gv, 0, none⟩ (.int .i64 n2) (.inl (.inl rfl))).set ⟨gP, 0, none⟩ (.int .i64 n2) (.inl (.inr rfl))).below w.heap.size HB27.out.size (fun k hk => by omega)))
          obtain ⟨w28, hw28⟩ : ∃ wx, wx = w27.setCell ⟨gv, 0, none⟩ (.int .i64 n2) := ⟨_, rfl⟩
          rw [← hw28] at hVo1 hlb n0 HMn HBn
          have hgf2 : ∀ j, w28.frozen? ⟨gP, j, none⟩ = false := fun j => by rw [hw28]; exact hgf j
          have HSS : Hid (w28.drew.cell? ⟨g11, 3, none⟩ = some (.slice (some ⟨gP, 0, none⟩) P.length cP) ∧ w28.drew.cell? ⟨gv, 0, none⟩ = some (.int .i64 n2)) := hide_ ⟨hlb, hVo1⟩
          clear hMp hVo1 hgf hNo1
          go_upto_region 19 with fail
          (try rw [hn2])
          rw [← hw28]
          clear hw28 p0 pf HM27 HB27 hlb
          refine wp_region_last 6 (fun w' => w'.cell? ⟨g11, 3, none⟩ = some (.slice (some ⟨gP, 0, none⟩) P.length cP) ∧ w'.cell? ⟨gv, 0, none⟩ = some (.int .i64 n2)) (by kernel_rfl) (HSS.out) (fun hHeld => ?_)
          refine wpAnyF_take [6] (by kernel_rfl) (i := 0) (v := ?vz1) rfl (by kernel_rfl) (by kernel_rfl) (by kernel_rfl) (fun _ _ _ h => h) (Or.inl ⟨by kernel_rfl, ?hyz1⟩) hHeld ?restz1
          case hyz1 => intro w' hSw; (try dsimp only at hSw); go_simp; try with_reducible rfl
          simp only [Act.put]
          refine wpAnyF_take [6] (by kernel_rfl) (i := 1) (v := ?vz2) rfl (by kernel_rfl) (by kernel_rfl) (by kernel_rfl) (fun _ _ _ h => h) (Or.inl ⟨by kernel_rfl, ?hyz2⟩) hHeld ?restz2
          case hyz2 => intro w' hSw; (try dsimp only at hSw); go_simp; try with_reducible rfl
          simp only [Act.put]
          refine wpAnyF_take [6] (by kernel_rfl) (i := 2) (v := ?vz3) rfl (by kernel_rfl) (by kernel_rfl) (by kernel_rfl) (fun _ _ _ h => h) (Or.inl ⟨by kernel_rfl, ?hyz3⟩) hHeld ?restz3
          case hyz3 => intro w' hSw; (try dsimp only at hSw); go_simp; try with_reducible rfl
          simp only [Act.put]
          refine wpAnyF_take [6] (by kernel_rfl) (i := 3) (v := ?vz4) rfl (by kernel_rfl) (by kernel_rfl) (by kernel_rfl) (fun _ _ _ h => h) (Or.inl ⟨by kernel_rfl, ?hyz4⟩) hHeld ?restz4
          case hyz4 => intro w' hSw; (try dsimp only at hSw); go_simp; try with_reducible rfl
          simp only [Act.put]
          refine wpAnyF_take [6] (by kernel_rfl) (i := 4) (v := ?vz5) rfl (by kernel_rfl) (by kernel_rfl) (by kernel_rfl) (fun _ _ _ h => h) (Or.inl ⟨by kernel_rfl, ?hyz5⟩) hHeld ?restz5
          case hyz5 => intro w' hSw; (try dsimp only at hSw); go_simp; try with_reducible rfl
          simp only [Act.put]
          refine wpAnyF_take [6] (by kernel_rfl) (i := 5) (v := ?vz6) rfl (by kernel_rfl) (by kernel_rfl) (by kernel_rfl) (fun _ _ _ h => h) (Or.inl ⟨by kernel_rfl, ?hyz6⟩) hHeld ?restz6
          case hyz6 => intro w' hSw; (try dsimp only at hSw); go_simp; try with_reducible rfl
          simp only [Act.put]
          refine wpAnyF_ready (rs := [6]) (by kernel_rfl) (by simp) ?_
          refine AllReadyF.last rfl (fun K hK => ?_)
          go_simp
          refine hK.out _ _ ?_
          clear hK K
          refine wpAnyF_done (by kernel_rfl) ?_ _
          clear HSS hHeld
          go_wp2_with fail
          go_roundw
          case rel => exact ⟨i + 1, _, by omega, by go_num, HLn2, hide_ (HMn.out.later ((Below.refl _ _).drew)), hide_ HBn.out.drew⟩
          case measure => simp [intOf]; omega
      · obtain rfl : i = 2 := by omega
        go_wp2
        go_ret
        exact ⟨rfl, HB.out⟩
end Go.Proofs.YtomfidjmbjpceaaDoor
/- TypingSome, out of its walk. The frame round the walk is that of the tool proof-skeleton. -/
namespace Go.Proofs.YtomfidjmbjpceaaDoor.typingSome
open Go.ChangeMaps Go.ChangeShapes Go.WideShapes Go.ChangeAt Go.RowKit
set_option linter.unusedVariables false

theorem own : ownKnob Tryd.prog.godebug = none := by kernel_rfl
theorem laidOut : laidOutB Tryd.prog = true := by kernel_rfl
theorem cellsI : Tryd.prog.cellsOf 3 = 1 := by kernel_rfl
theorem bytesI : Tryd.prog.bytesOf 3 = 8 := by kernel_rfl
theorem cellsNd : Tryd.prog.cellsOf 49 = 3 := by kernel_rfl
theorem gK : Tryd.prog.globalNamed "mortise/typing.nodeKinds" = some 0 := by kernel_rfl
theorem gKT : (Tryd.prog.globals[0]?).map (·.type) = some 83 := by kernel_rfl
theorem cellsK : Tryd.prog.cellsOf 83 = 9 := by kernel_rfl
theorem laid_k : (Rows.laid_mortise_typing_nodeKinds : DataW Unit) = Lib.tabData .i64 nkT := by kernel_rfl
theorem tab_of {W : World} (h : laidMetH Tryd.prog Rows.typingSomeRow.laid W) : Tab W := by
  have h1 : laidMet Tryd.prog [("mortise/typing.nodeKinds", Rows.laid_mortise_typing_nodeKinds)] W := h
  rw [laid_k] at h1
  have h3 := Lib.tabIs_of_head (e := 3) gK gKT (by kernel_rfl) (by kernel_rfl) (by kernel_rfl) cellsK h1
  exact ⟨World.block_lt_of_cell? W _ (h3.cell gK 0 (by decide)), fun i hi => h3.cell gK i (by simpa [nkT] using hi)⟩
/-- The settled world w, the table (block 0) holding what its initialiser lays. -/
def laidIn (w : World) : World :=
  { w with heap := w.heap.modify 0 fun
      | .cells _ t frozen => .cells (nkT.map fun z => Value.int .i64 z).toArray t frozen
      | o => o }
theorem bound8 {cap : Nat} {l : List Nat} (h : cap = 0 ∨ cap * Tryd.prog.bytesOf 3 ∈ l) (hl : ∀ n ∈ l, n ≤ 140737488351232) : cap ≤ 17592186043904 := by
  rcases h with h | h
  · omega
  · have := hl _ h
    rw [bytesI] at this
    omega
set_option maxRecDepth 100000 in
theorem contract (H : Type) (enc : TypeId × Value → H) (W : World) (base : Nat) (args : Array Value) (ds gs : List (DataW H)) (before : List MemPlace)
    (hval : ∀ (j : Nat) t v, Tryd.f3.params[j]? = some t → args[j]? = some v → Value.okWide Tryd.prog W .any base t v)
    (hW : DataW.Whole enc Tryd.prog Tryd.f3.params.toList Rows.typingSomeSpec.vars false W args.toList ds gs before) (hsz0 : (DataW.weightsEach Tryd.prog (Tryd.f3.params.toList ++ Rows.typingSomeSpec.plain.varTypes Tryd.prog) (ds ++ gs)).all (· ≤ reachBytes) = true) (hL : laidMetH Tryd.prog Rows.typingSomeRow.laid W) :
    Calls Tryd.prog 3 args W fun e W' => ∃ v, e = .returned v ∧ Rows.typingSomeSpec.post enc Tryd.prog Tryd.f3 false true false false W args v W' := by
  have hsz := hsz0
  have hW' := hW
  obtain ⟨p, q, hA0, hV, rfl, hfz, hnd⟩ := hW
  have hA : DataW.TrodAll enc Tryd.prog W 0 (fun _ => true) true Tryd.f3.params.toList args.toList ds p := hA0
  rw [Tryd.params3] at hA hval hsz
  obtain ⟨v0, vs0, d0, ds0, p0, q0, hargs, rfl, rfl, h0, r0⟩ := trodAll_cons hA
  obtain ⟨v1, vs1, d1, ds1, p1, q1, rfl, rfl, rfl, h1, r1⟩ := trodAll_cons r0
  obtain ⟨v2, vs2, d2, ds2, p2, q2, rfl, rfl, rfl, h2, r2⟩ := trodAll_cons r1
  obtain ⟨rfl, rfl, rfl⟩ := trodAll_nil r2
  obtain rfl : args = #[v0, v1, v2] := by cases args; simp_all
  obtain ⟨rfl, rfl⟩ := trodVars_none hV
  obtain ⟨cs0, rfl, _⟩ := okWide_struct Tryd.underlying25 (hval 0 25 v0 rfl rfl)
  obtain ⟨a2, len2, cap2, rfl⟩ := okWide_slice Tryd.underlying26 (hval 2 26 v2 rfl rfl)
  obtain ⟨n1, rfl, rfl, rfl, w1⟩ := open_int Tryd.underlying3 (hval 1 3 v1 rfl rfl) h1
  have k0 := h0
  have lt0 : ∀ x ∈ p0, x.block < W.heap.size := by obtain ⟨m, hm⟩ := k0; exact DataW.trod_lt m _ _ _ hm
  have k2 := h2
  have lt2 : ∀ x ∈ p2, x.block < W.heap.size := by obtain ⟨m, hm⟩ := k2; exact DataW.trod_lt m _ _ _ hm
  have walk : Calls Tryd.prog 3 #[.agg cs0, .int .i64 n1, .slice a2 len2 cap2] W fun e w' => e = .returned (.bool true) ∧ Below W.heap.size W w' := by
    obtain ⟨f0, hf0⟩ := h0
    obtain ⟨f2, hf2⟩ := h2
    have reach : ∀ (n : Nat), decide (n ≤ reachBytes) = true → n ≤ 140737488351232 := fun n hm => by
      have hm2 : n ≤ reachBytes := of_decide_eq_true hm
      rw [show reachBytes = 140737488351232 from rfl] at hm2
      exact hm2
    obtain ⟨b2, m2, c2, l2, e2, hnc2, hcm2, hl2, hrow2, hnil2, -, hw2⟩ := row_weigh Tryd.underlying26 Tryd.underlying3 cellsI hf2
    injection e2 with e21 e22 e23
    subst e21 e22 e23
    have hc2 := bound8 hw2 (fun n hn => reach n (List.all_eq_true.1 hsz _ (DataW.weights_mem_each (j := 2) rfl rfl _ hn)))
    obtain ⟨a, cap, T, ar, cr, R, hcs, htc, htn, hT, hWt, hrc, hrn, hR, hRl⟩ := schema_open hf0 (fun n hn => reach n (List.all_eq_true.1 hsz _ (DataW.weights_mem_each (j := 0) rfl rfl _ hn)))
    have e0 : cs0 = #[.slice a T.length cap, .slice ar R.length cr] := Array.toList_inj.1 hcs
    subst e0
    subst hl2
    have h1t := hWt.1
    exact tsome_any a cap T ar cr R n1 a2 cap2 l2 W (by omega) (by omega) hrc hrn (hide_ hWt.lens) (hide_ hT) (hide_ hR) (by omega) hnc2 hnil2 (hide_ hrow2) (hide_ (tab_of hL))
  clear hA0
  refine walk.mono fun e W' ⟨he, bel⟩ => ?_
  subst he
  exact ⟨_, rfl, _, _, _, [], _, [], hW', trodAll_mk1 (shut_bool Tryd.underlying4 _), (trodAll_cons_mk (Below.trod laidOut (by kernel_rfl) (of_decide_eq_true (by kernel_rfl)) k0 bel lt0) (trodAll_cons_mk (shut_int Tryd.underlying3 w1) (trodAll_cons_mk (Below.trod laidOut (by kernel_rfl) (of_decide_eq_true (by kernel_rfl)) k2 bel lt2) trodAll_mk0))), rfl, bel.frame _, fun h => by cases h⟩

def wit : Array Value := #[.agg #[.slice none 0 0, .slice none 0 0], .int .i64 0, .slice none 0 0]
theorem laid_met (os : Os) : laidMet Tryd.prog Rows.typingSomeRow.laid ((laidIn (World.holding Tryd.prog os ⟨#[], #[], []⟩)).forCall (fun _ _ => 0) ⟨#[], wit, []⟩).memory :=
  laidMet_of_run' 8 (by kernel_rfl) (by kernel_rfl)
theorem reads (os : Os) {H : Type} (enc : TypeId × Value → H) : ∃ ds places, DataW.whole enc Tryd.prog ((laidIn (World.holding Tryd.prog os ⟨#[], #[], []⟩)).forCall (fun _ _ => 0) ⟨#[], wit, []⟩).memory Tryd.f3.params.toList Rows.typingSomeSpec.vars false wit.toList 8 = some (ds, [], places) :=
  ⟨[.agg [.nil, .nil], .lit (.int .i64 0), .nil], [], by kernel_rfl⟩

set_option maxRecDepth 100000 in
theorem lifted (os : Os) (started : os.Started) (H : Type) (enc : TypeId × Value → H) (F : Stop.Interp) :
    ReturnsInHanded {} Tryd.checked os 3 .any ((OpenSpec.ofChange Rows.typingSomeSpec).preRow enc Tryd.prog Tryd.f3 Rows.typingSomeRow.domain false Rows.typingSomeRow.laid) (((OpenSpec.ofChange Rows.typingSomeSpec).at F).post enc Tryd.prog Tryd.f3 false true false false) := by
  obtain ⟨ds, places, hx⟩ := reads os enc
  refine returnsInHanded_of_row (C := Tryd.checked) (s := OpenSpec.ofChange Rows.typingSomeSpec) own started (by kernel_rfl) Tryd.func3
    (witness_row_at (enc := enc) (C := Tryd.checked) false (laidIn (World.holding Tryd.prog os ⟨#[], #[], []⟩)) wit rfl (by kernel_rfl) (by kernel_rfl) (by kernel_rfl)
      (OpenSpec.preRow_of_cond 8 hx (by kernel_rfl) (fun k hk => by cases hk) (by kernel_rfl) (laid_met os))) ?_
  intro W base args ds gs before hval hW _ _ hsz hL _ _
  exact contract H enc W base args ds gs before hval hW hsz hL

theorem said : Rows.TypingSomeSaid :=
  OpenClaim.holds_of_cond 3 Tryd.f3 rfl rfl rfl rfl rfl rfl rfl ⟨rfl, rfl, rfl, rfl, rfl⟩ rfl rfl rfl rfl rfl (by kernel_rfl) Tryd.func3 (by kernel_rfl)
    (of_decide_eq_true (by kernel_rfl)) (by unfold Func.isWrapper; first | (rw [if_pos (by decide +kernel)]; kernel_rfl) | (rw [if_neg (by decide +kernel)]; exact ⟨rfl, rfl⟩))
    (fun os started H enc _ F => by rw [OpenClaim.pre_eq_preRow]; exact lifted os started H enc F)

theorem plain (f : FuncId) (fn : Func) (hf : Tryd.pinned.checked.prog.funcNamed "mortise/mortiselaw11.TypingSome" = some f) (hfn : Tryd.pinned.checked.prog.funcs[f]? = some fn) :
    false = Tryd.pinned.checked.prog.looks [] ∧ ∀ (j : Nat) t, fn.params[j]? = some t → Tryd.pinned.checked.prog.wantsStandIn t = false := by
  obtain rfl : f = 3 := Option.some.inj ((show Tryd.prog.funcNamed "mortise/mortiselaw11.TypingSome" = some 3 by kernel_rfl).symm.trans hf) |>.symm
  obtain rfl : fn = Tryd.f3 := (Option.some.inj (Tryd.func3.symm.trans hfn)).symm
  refine ⟨by kernel_rfl, fun j t ht => ?_⟩
  rw [Tryd.params3] at ht
  have hm := Array.mem_of_getElem? ht
  simp only [List.mem_toArray, List.mem_cons, List.not_mem_nil, or_false] at hm
  rcases hm with rfl | rfl | rfl <;> (show Tryd.prog.wantsStandIn _ = false; kernel_rfl)

theorem card : Rows.TypingSomeCardSaid :=
  Claim7.holds_tied_plain_at .later [] _ _ _ _ said (fun _ h => by cases h) (by kernel_rfl) (fun _ h => by cases h) typingSome_row_tie rfl ⟨rfl, rfl⟩ (by kernel_rfl) rfl plain (by kernel_rfl)
end Go.Proofs.YtomfidjmbjpceaaDoor.typingSome
namespace Go.Proofs.YtomfidjmbjpceaaDoor
theorem typingSome_holds : Rows.TypingSomeCardSaid := typingSome.card
#print axioms typingSome_holds
end Go.Proofs.YtomfidjmbjpceaaDoor
