import Derived.Test.YtomfidjmbjpceaaDoorTm
import Derived.Test.YtomfidjmbjpceaaDoorTl2
import Derived.Test.YtomfidjmbjpceaaDoorTk
import Derived.Test.YtomfidjmbjpceaaDoorAp
import Derived.Test.YtomfidjmbjpceaaDoorOt
import Derived.Test.YtomfidjmbjpceaaDoorJt1
import Derived.Laws.Closers25b
import Derived.Test.YtomfidjmbjpceaaDoorZrs
import Derived.Test.YtomfidjmbjpceaaDoorRead
import Derived.Test.YtomfidjmbjpceaaDoorCards
import Derived.Test.YtomfidjmbjpceaaDoorTie
import Derived.SizedLaws
import Derived.WalkKit
import Derived.ProofKit
import Derived.ChangeMaps5
import Derived.Below
import Derived.OpenShut
import Derived.ShutString
import Derived.Deep.DeepHandedRow
import Derived.Lib.LaidTab
import Derived.Stop.LaidErr
/- TypingExact: its walk. -/
namespace Go.Proofs.YtomfidjmbjpceaaDoor
open Go.RowKit
set_option linter.unusedVariables false

theorem min_ifN (n m : Nat) (h : min n 600 = m) : (if (600 : Int) < (n : Int) then (600 : Int) else (n : Int)) = (m : Int) := by split <;> omega
theorem min_ifN2 (n m : Nat) (h : min n 600 = m) : (if 600 < n then (600 : Int) else (n : Int)) = (m : Int) := by split <;> omega
theorem wkT_len (T : List Ty) : ∀ (V : List Nv) (st : List Int) (p : Nat), (wkT T st V p).1.length ≤ V.length
  | [], st, p => by cases st <;> simp [wkT]
  | x :: V, [], p => by simp [wkT]
  | x :: V, t :: st, p => by
    have h := wkT_len T V (kidsT (T.getD t.toNat ty0) x ++ st) (p + 1)
    unfold wkT
    split
    · simp
    · simp only
      split
      · simp only [List.length_cons]; omega
      · simp only [List.length_cons]; omega
theorem tyV_len (T : List Ty) (R : List Rt) (t : Int) (V : List Nv) : (tyV T R t V).1.length ≤ V.length := by
  unfold tyV
  split
  · simp
  split
  · simp
  split
  · simp
  · exact wkT_len T V [t] 0
theorem rem_in (a : Int) (n : Nat) (hn : 0 < n) : ∃ r : Nat, (a.tmod (n : Int) + n).tmod (n : Int) = (r : Int) ∧ r < n ∧ -(n : Int) < a.tmod n ∧ a.tmod n < n := by
  have h1 := tmod_in a n (by omega)
  have h2 := tmod_in (a.tmod n + n) n (by omega)
  have h3 : 0 ≤ (a.tmod (n : Int) + n).tmod (n : Int) := by rw [Int.tmod_eq_emod_of_nonneg (by omega)]; exact Int.emod_nonneg _ (by omega)
  exact ⟨((a.tmod (n : Int) + n).tmod (n : Int)).toNat, by omega, by omega, h1.1, h1.2⟩
theorem xor_ok (x : Int) : 0 ≤ IntKind.u64.wrap x ∧ IntKind.u64.wrap x < 18446744073709551616 := by rw [IntKind.wrap_u64]; omega
set_option maxRecDepth 100000 in
set_option maxHeartbeats 16000000 in
theorem texact_any (aT : Option Addr) (cT : Nat) (T : List Ty) (aR : Option Addr) (cR : Nat) (R : List Rt) (t at_ : Int) (aN : Option Addr) (cN : Nat) (N : List Nv) (w : World) (hn : T.length ≤ 1000000000000000) (hm : R.length ≤ 1000000000000000) (hcR : R.length ≤ cR) (hnil : aR = none → cR = 0) (hl : Hid (LensT T)) (hT : Hid (TRow w aT T)) (hRr : Hid (RRow w aR R)) (hNl : N.length ≤ 1000000000000000) (hNc : N.length ≤ cN) (hNn : aN = none → cN = 0) (hNr : Hid (VRow w aN N)) (hNk : Hid (∀ x ∈ N, NvOk x)) (hat : -9223372036854775808 ≤ at_ ∧ at_ ≤ 9223372036854775807) (ht : Hid (Tab w)) :
    Calls Tryd.prog 4 #[.agg #[.slice aT T.length cT, .slice aR R.length cR], .int .i64 t, .slice aN N.length cN, .int .i64 at_] w fun e w' => e = .returned (.bool true) ∧ Below w.heap.size w w' := by
  obtain ⟨w2, hw2⟩ : ∃ wx, wx = w.alloc (.cells #[.slice aT T.length cT, .slice aR R.length cR] 25) := ⟨_, rfl⟩
  have hB2 : Below w.heap.size w w2 := by rw [hw2]; exact below1 _ _
  have k1 : Blk w2 w.heap.size 25 [.slice aT T.length cT, .slice aR R.length cR] := by rw [hw2]; exact Blk.newA w _ _
  have K1 := hide_ k1
  have HB2 := hide_ hB2
  have HAw := hide_ (awake_any w2 (hide_ (ht.out.later hB2)))
  have hw0 : 0 < w.heap.size := ht.out.lt
  clear k1 hB2
  go_enter Tryd.func4, Tryd.ntmps4
  go_upto_region 1 with fail
  rw [← hw2]
  clear hw2
  go_wp2_with fail
  refine HAw.out.mono ?_
  rintro e w3 ⟨rfl, hB3⟩
  have HB3 := hide_ (below_to HB2.out hB3)
  have k3 := K1.out.later hB3
  have i0 := k3.cell 0; have i1 := k3.cell 1
  simp at i0 i1
  have HCu := hide_ (cut_any aT cT T aR cR R w w3 hn hm hcR hnil hl HB3 hT (hide_ (hRr.out.later HB3.out)))
  clear hB3 HAw k3 K1
  go_wp2_with fail
  refine HCu.out.mono ?_
  rintro e w4 ⟨a9, c9, ar9, cr9, Q9, rfl, HT4, HQ9, HR4, HB4⟩
  have hTl : (cutT T).length ≤ 120 := by simp [cutT]; omega
  have hRl : (R.take 260).length ≤ 260 := by simp; omega
  have HLs : Hid (LensT (cutT T)) := hide_ (cutT_lens T)
  have HPs : Hid (∀ t ∈ cutT T, t.ps.length ≤ 1000000) := hide_ (fun t ht => by
    simp only [cutT, List.mem_map] at ht
    obtain ⟨u, _, rfl⟩ := ht
    simp [cut1]
    omega)
  generalize cutT T = U at *
  generalize R.take 260 = Rc at *
  have k5 := Blk.newA w4 #[.slice a9 U.length c9, .slice ar9 Rc.length cr9] 25
  have b5 := below1 w4 (.cells #[.slice a9 U.length c9, .slice ar9 Rc.length cr9] 25)
  obtain ⟨w5, hw5⟩ : ∃ wx, wx = w4.alloc (.cells #[.slice a9 U.length c9, .slice ar9 Rc.length cr9] 25) := ⟨_, rfl⟩
  rw [← hw5] at k5 b5
  have HB5 := hide_ (below_to HB3.out (below_to HB4.out b5))
  have KS := hide_ k5
  have HT5 := hide_ (HT4.out.later b5)
  have HR5 := hide_ (HR4.out.later b5)
  obtain ⟨m, hmm⟩ : ∃ m, min N.length 600 = m := ⟨_, rfl⟩
  have hmA := min_ifN N.length m hmm
  have hmB := min_ifN2 N.length m hmm
  have hml : m ≤ 600 := by omega
  have hmc : (m : Int) ≤ cN := by omega
  have hm0 : (0 : Int) ≤ m := by omega
  have hVl : (N.take 600).length = m := by rw [List.length_take]; omega
  have HNk : Hid (∀ x ∈ N.take 600, NvOk x) := hide_ (fun x hx => hNk.out x (List.mem_of_mem_take hx))
  have hVr : VRow w5 aN (N.take 600) := (hNr.out.later HB5.out).take 600
  generalize N.take 600 = V0 at *
  subst hVl
  obtain ⟨v6, w6, hr6, ho6, hb6⟩ := run_copyG (P := Tryd.prog) nvc_len nvc_one Tryd.underlying31 infoN rfl (by decide) w5 aN V0.length cN V0 rfl hVr hNn (by unfold maxLen; omega) (by omega)
  have HR6 := hide_ hr6
  have HV6 : Hid (NOwn w6 w5.heap.size v6 V0) := hide_ ho6
  have HB56 := hide_ hb6
  have HB6 := hide_ (below_to HB5.out hb6)
  obtain ⟨av, cv, ev, hVr6⟩ := HV6.out.row
  subst ev
  obtain ⟨g9, hg9⟩ : ∃ g, w4.heap.size = g := ⟨_, rfl⟩
  rw [hg9] at KS
  have h9 : w.heap.size ≤ g9 := by rw [← hg9]; exact (below_to HB3.out HB4.out).size
  have KS6 := hide_ (KS.out.later hb6)
  have HT6 := hide_ (HT5.out.later hb6)
  have HR6r := hide_ (HR5.out.later hb6)
  have hvn6 : av = none → cv = 0 := by
    obtain ⟨a9', c9', e9', -, h9', -⟩ := own_grow nvc_len HV6.out
    injection e9' with e1 e2 e3
    intro h
    rw [e3]
    exact h9' (by rw [← e1]; exact h)
  have hrn6 : ar9 = none → cr9 = 0 := by
    obtain ⟨a9', c9', e9', -, h9', -⟩ := own_grow rtc_len HR6r.out
    injection e9' with e1 e2 e3
    intro h
    rw [e3]
    exact h9' (by rw [← e1]; exact h)
  have s0 := KS6.out.cell 0; have s1 := KS6.out.cell 1
  simp at s0 s1
  have HLe := hide_ (lent_any a9 c9 U ar9 cr9 Rc w6 (by omega) (by omega) hrn6 HPs (hide_ (town_row HT6.out HQ9.out)) (hide_ (rown_row HR6r.out)) av cv V0 (by omega) hvn6 (hide_ hVr6) none 0 [] (by simp) (fun _ => rfl) (hide_ (.inl ⟨rfl, rfl⟩)))
  clear k5 b5 hr6 ho6 hb6 hVr hVr6 i0 i1 HCu HT4 HR4
  go_upto_region 4 with fail
  rw [← hw5]
  clear hw5
  go_wp2_with (first | (at_builtin; refine wpList_append_run rfl (.const (.slice none 0 0)) (.tmp 29) 31 31 rfl rfl rfl HR6.out ?_; clear HR6) | fail)
  refine HLe.out.mono ?_
  rintro e w7 ⟨gT, cT7, Q, gR, cR7, gV, cV, gP, cP, rfl, HL7, HQ7, HN7, HI7, HB7⟩
  have k8 := Blk.newA w7 #[.slice (some ⟨gT, 0, none⟩) U.length cT7, .slice (some ⟨gR, 0, none⟩) Rc.length cR7, .slice (some ⟨gV, 0, none⟩) V0.length cV, .slice (some ⟨gP, 0, none⟩) 0 cP] 33
  have b8 := below1 w7 (.cells #[.slice (some ⟨gT, 0, none⟩) U.length cT7, .slice (some ⟨gR, 0, none⟩) Rc.length cR7, .slice (some ⟨gV, 0, none⟩) V0.length cV, .slice (some ⟨gP, 0, none⟩) 0 cP] 33)
  obtain ⟨w8, hw8⟩ : ∃ wx, wx = w7.alloc (.cells #[.slice (some ⟨gT, 0, none⟩) U.length cT7, .slice (some ⟨gR, 0, none⟩) Rc.length cR7, .slice (some ⟨gV, 0, none⟩) V0.length cV, .slice (some ⟨gP, 0, none⟩) 0 cP] 33) := ⟨_, rfl⟩
  rw [← hw8] at k8 b8
  obtain ⟨g11, hg11⟩ : ∃ g, w7.heap.size = g := ⟨_, rfl⟩
  rw [hg11] at k8
  have hb68 := below_to HB7.out b8
  have HM8 : Hid (TxM w8 w.heap.size g9 g11 a9 c9 Q9 U ar9 cr9 Rc w5.heap.size av cv V0 w6.heap.size gT cT7 Q gR cR7 gV cV gP cP) := hide_ ⟨KS6.out.later hb68, k8, HT6.out.later hb68, HR6r.out.later hb68, HV6.out.later hb68, HL7.out.later b8, HN7.out.later b8, HI7.out.later b8, ht.out.later (below_to HB6.out hb68), fun k hk => (HV6.out.lt k hk).2⟩
  have HB8 := hide_ (below_to HB6.out hb68)
  have hzv : w.heap.size ≤ w5.heap.size := HB5.out.size
  have hzl : w.heap.size ≤ w6.heap.size := HB6.out.size
  obtain ⟨n, hnV⟩ : ∃ n, V0.length = n := ⟨_, rfl⟩
  have HV0n := hide_ hnV
  clear k8 b8 hb68 s0 s1 HLe HL7 HN7 HI7 KS6 HT6 HR6r HV6 KS HT5 HR5
  rw [hnV] at hml hmc hm0 hw8 ⊢
  go_upto_region 6 with fail
  rw [← hw8]
  clear hw8 hg11 hnV
  go_wp2_with fail
  go_loopw [12] (fun x12 wr => ∃ (i : Nat) (V : List Nv), i ≤ 2 ∧ x12 = .int .i64 (i : Int) ∧ Hid (V.length = n) ∧ Hid (∀ x ∈ V, NvOk x) ∧ Hid (TxM wr w.heap.size g9 g11 a9 c9 Q9 U ar9 cr9 Rc w5.heap.size av cv V w6.heap.size gT cT7 Q gR cR7 gV cV gP cP) ∧ Hid (Below w.heap.size w wr)) (fun x12 _ => 2 - (intOf x12).toNat)
  case atStart => exact ⟨0, V0, by omega, rfl, HV0n, HNk, HM8, HB8⟩
  case round =>
    obtain ⟨i, V, hi, rfl, HVn, HNk1, HM, HB⟩ := hrel
    generalize wr = wq at *
    clear HM8 HB8
    by_cases hlt : i < 2
    · have hlt' : (i : Int) < 2 := by omega
      have hvn := HVn.out
      subst hvn
      have HAll : Hid (∀ w', Below wq.heap.size wq w' → TxM w' w.heap.size g9 g11 a9 c9 Q9 U ar9 cr9 Rc w5.heap.size av cv V w6.heap.size gT cT7 Q gR cR7 gV cV gP cP) := hide_ (fun w' hb => HM.out.later hb)
      have HBx : Hid (∀ w', Below wq.heap.size wq w' → w'.cell? ⟨g11, 0, none⟩ = some (.slice (some ⟨gT, 0, none⟩) U.length cT7) ∧ w'.cell? ⟨g11, 1, none⟩ = some (.slice (some ⟨gR, 0, none⟩) Rc.length cR7) ∧ w'.cell? ⟨g11, 2, none⟩ = some (.slice (some ⟨gV, 0, none⟩) V.length cV) ∧ w'.cell? ⟨g11, 3, none⟩ = some (.slice (some ⟨gP, 0, none⟩) 0 cP) ∧ w'.cell? ⟨g9, 0, none⟩ = some (.slice a9 U.length c9) ∧ w'.cell? ⟨g9, 1, none⟩ = some (.slice ar9 Rc.length cr9)) := hide_ (fun w' hb => by
        have h := HAll.out w' hb
        have a0 := h.lbox.cell 0; have a1 := h.lbox.cell 1; have a2 := h.lbox.cell 2; have a3 := h.lbox.cell 3
        have b0 := h.sbox.cell 0; have b1 := h.sbox.cell 1
        simp at a0 a1 a2 a3 b0 b1
        exact ⟨a0, a1, a2, a3, b0, b1⟩)
      have HVr : Hid (∀ w', Below wq.heap.size wq w' → VRow w' (some ⟨gV, 0, none⟩) V ∧ TRow w' (some ⟨gT, 0, none⟩) U ∧ RRow w' (some ⟨gR, 0, none⟩) Rc) := hide_ (fun w' hb => by
        have h := HAll.out w' hb
        obtain ⟨a2, c2, e2, -, -, g2⟩ := own_grow nvc_len h.no
        injection e2 with e2 _ _
        subst e2
        have g3 := g2.take V.length
        rw [List.take_left] at g3
        have hr := h.lt.row
        rw [HQ7.out] at hr
        exact ⟨g3, hr.1, hr.2⟩)
      obtain ⟨A, hA⟩ : ∃ A, tyV U Rc t V = A := ⟨_, rfl⟩
      have HCk : Hid (∀ w', Below wq.heap.size wq w' → Calls Tryd.prog 16 #[.agg #[.slice (some ⟨gT, 0, none⟩) U.length cT7, .slice (some ⟨gR, 0, none⟩) Rc.length cR7], .int .i64 t, .slice (some ⟨gV, 0, none⟩) V.length cV] w' fun e w2 => e = .returned (.agg #[.int .i64 A.2.1, .int .i64 A.2.2]) ∧ Below w'.heap.size w' w2) := hide_ (fun w' hb => by
        obtain ⟨h1, h2, h3⟩ := HVr.out w' hb
        have h := tcheck_any (some ⟨gT, 0, none⟩) cT7 U (some ⟨gR, 0, none⟩) cR7 Rc t (some ⟨gV, 0, none⟩) cV V w' (by omega) (by omega) (by omega) HLs (hide_ h2) (hide_ h3) (hide_ h1) (hide_ (HAll.out w' hb).tab)
        rw [hA] at h
        exact h)
      have HCt : Hid (∀ w', Below wq.heap.size wq w' → Calls Tryd.prog 17 #[.agg #[.slice (some ⟨gT, 0, none⟩) U.length cT7, .slice (some ⟨gR, 0, none⟩) Rc.length cR7], .int .i64 t, .slice (some ⟨gV, 0, none⟩) V.length cV] w' fun e w2 => ∃ v', e = .returned (.tuple #[v', .agg #[.int .i64 A.2.1, .int .i64 A.2.2]]) ∧ Hid (IOwn w2 w'.heap.size v' A.1) ∧ Hid (Below w'.heap.size w' w2)) := hide_ (fun w' hb => by
        obtain ⟨h1, h2, h3⟩ := HVr.out w' hb
        have h := types_any (some ⟨gT, 0, none⟩) cT7 U (some ⟨gR, 0, none⟩) cR7 Rc t (some ⟨gV, 0, none⟩) cV V w' (by omega) (by omega) (by omega) HLs (hide_ h2) (hide_ h3) (hide_ h1) (hide_ (HAll.out w' hb).tab)
        rw [hA] at h
        exact h)
      have HCr : Hid (∀ w', Below wq.heap.size wq w' → Calls Tryd.prog 18 #[.agg #[.slice a9 U.length c9, .slice ar9 Rc.length cr9], .int .i64 t, .slice av V.length cv] w' fun e w2 => ∃ v', e = .returned (.tuple #[v', .agg #[.int .i64 A.2.1, .int .i64 A.2.2]]) ∧ Hid (IOwn w2 w'.heap.size v' A.1) ∧ Hid (Below w'.heap.size w' w2)) := hide_ (fun w' hb => by
        have hx := HAll.out w' hb
        obtain ⟨a2, c2, e2, g2⟩ := hx.vo.row
        injection e2 with e2 _ _
        subst e2
        have h := types11_any a9 c9 U ar9 cr9 Rc t av cv V w' (by omega) (by omega) (by omega) HLs (hide_ (town_row hx.tow HQ9.out)) (hide_ (rown_row hx.ro)) (hide_ g2) HNk1
        rw [hA] at h
        exact h)
      have HKp : Hid (∀ w', Below wq.heap.size wq w' → Calls Tryd.prog 14 #[.agg #[.slice (some ⟨gT, 0, none⟩) U.length cT7, .slice (some ⟨gR, 0, none⟩) Rc.length cR7, .slice (some ⟨gV, 0, none⟩) V.length cV, .slice (some ⟨gP, 0, none⟩) 0 cP], .agg #[.slice a9 U.length c9, .slice ar9 Rc.length cr9], .slice av V.length cv, .slice none 0 0] w' fun e w2 => e = .returned (.bool true) ∧ Below w'.heap.size w' w2) := hide_ (fun w' hb => by
        have hx := HAll.out w' hb
        obtain ⟨a2, c2, e2, g2⟩ := hx.vo.row
        injection e2 with e2 _ _
        subst e2
        exact kept_yes gT cT7 Q gR cR7 w6.heap.size a9 c9 U ar9 cr9 Rc w' (by omega) (by omega) HLs (hide_ hx.lt) HQ7 (hide_ (town_row hx.tow HQ9.out)) (hide_ (rown_row hx.ro)) gV cV av cv V (by omega) (hide_ hx.no) (hide_ g2) gP cP none 0 [] (by simp) (hide_ hx.io) (hide_ (.inl ⟨rfl, rfl⟩)))
      have hAl : A.1.length ≤ V.length := by rw [← hA]; exact tyV_len _ _ _ _
      clear hA
      obtain ⟨nums, E, F⟩ := A
      simp only at hAl
      simp only at HCk HCt HCr
      have HD0 : Hid (Below wq.heap.size wq wq) := hide_ (Below.refl _ _)
      obtain ⟨x0, x1, x2, x3, y0, y1⟩ := HBx.out wq HD0.out
      go_wp2_with fail
      refine (HCk.out wq HD0.out).mono ?_
      rintro e w20a ⟨rfl, hb20⟩
      have k20 := Blk.newA w20a #[.int .i64 E, .int .i64 F] 42
      have b20 := below1 w20a (.cells #[.int .i64 E, .int .i64 F] 42)
      obtain ⟨w20, hw20⟩ : ∃ wx, wx = w20a.alloc (.cells #[.int .i64 E, .int .i64 F] 42) := ⟨_, rfl⟩
      rw [← hw20] at k20 b20
      obtain ⟨gf20, hgf20⟩ : ∃ g, w20a.heap.size = g := ⟨_, rfl⟩
      rw [hgf20] at k20
      have KF20 := hide_ k20
      have HD20 := hide_ (below_to hb20 b20)
      have hz20 : wq.heap.size ≤ w20.heap.size := HD20.out.size
      clear k20 b20 hb20 x0 x1 x2 x3 y0 y1
      go_upto_region 10 with fail
      rw [← hw20]
      clear hw20
      obtain ⟨x0, x1, x2, x3, y0, y1⟩ := HBx.out w20 HD20.out
      go_wp2_with fail
      refine (HCt.out w20 HD20.out).mono ?_
      rintro e w21a ⟨vl, rfl, HOvl, HBB21⟩
      have k21 := Blk.newA w21a #[.int .i64 E, .int .i64 F] 42
      have b21 := below1 w21a (.cells #[.int .i64 E, .int .i64 F] 42)
      obtain ⟨w21, hw21⟩ : ∃ wx, wx = w21a.alloc (.cells #[.int .i64 E, .int .i64 F] 42) := ⟨_, rfl⟩
      rw [← hw21] at k21 b21
      obtain ⟨gf21, hgf21⟩ : ∃ g, w21a.heap.size = g := ⟨_, rfl⟩
      rw [hgf21] at k21
      have KF21 := hide_ k21
      have HD21 := hide_ (below_to HD20.out (below_to HBB21.out b21))
      have HC21 := hide_ (below_to HBB21.out b21)
      have HOvl := hide_ (HOvl.out.later b21)
      have hz21a : w20.heap.size ≤ w21a.heap.size := HBB21.out.size
      have hz21 : w21a.heap.size ≤ w21.heap.size := b21.size
      clear k21 b21 x0 x1 x2 x3 y0 y1
      go_upto_region 11 with fail
      rw [← hw21]
      clear hw21 HBB21
      have HLl : Hid (∀ k, vl.ownBlock = some k → k < w21.heap.size) := hide_ (fun k hk => (HOvl.out.lies hk).2)
      obtain ⟨x0, x1, x2, x3, y0, y1⟩ := HBx.out w21 HD21.out
      go_wp2_with fail
      refine (HCt.out w21 HD21.out).mono ?_
      rintro e w22a ⟨vm, rfl, HOvm, HBB22⟩
      have k22 := Blk.newA w22a #[.int .i64 E, .int .i64 F] 42
      have b22 := below1 w22a (.cells #[.int .i64 E, .int .i64 F] 42)
      obtain ⟨w22, hw22⟩ : ∃ wx, wx = w22a.alloc (.cells #[.int .i64 E, .int .i64 F] 42) := ⟨_, rfl⟩
      rw [← hw22] at k22 b22
      obtain ⟨gf22, hgf22⟩ : ∃ g, w22a.heap.size = g := ⟨_, rfl⟩
      rw [hgf22] at k22
      have KF22 := hide_ k22
      have HD22 := hide_ (below_to HD21.out (below_to HBB22.out b22))
      have HC22 := hide_ (below_to HBB22.out b22)
      have HOvm := hide_ (HOvm.out.later b22)
      have hz22a : w21.heap.size ≤ w22a.heap.size := HBB22.out.size
      have hz22 : w22a.heap.size ≤ w22.heap.size := b22.size
      clear k22 b22 x0 x1 x2 x3 y0 y1
      go_upto_region 12 with fail
      rw [← hw22]
      clear hw22 HBB22
      obtain ⟨x0, x1, x2, x3, y0, y1⟩ := HBx.out w22 HD22.out
      go_wp2_with fail
      refine (HCr.out w22 HD22.out).mono ?_
      rintro e w23a ⟨vx, rfl, HOvx, HBB23⟩
      have k23 := Blk.newA w23a #[.int .i64 E, .int .i64 F] 42
      have b23 := below1 w23a (.cells #[.int .i64 E, .int .i64 F] 42)
      obtain ⟨w23, hw23⟩ : ∃ wx, wx = w23a.alloc (.cells #[.int .i64 E, .int .i64 F] 42) := ⟨_, rfl⟩
      rw [← hw23] at k23 b23
      obtain ⟨gf23, hgf23⟩ : ∃ g, w23a.heap.size = g := ⟨_, rfl⟩
      rw [hgf23] at k23
      have KF23 := hide_ k23
      have HD23 := hide_ (below_to HD22.out (below_to HBB23.out b23))
      have HC23 := hide_ (below_to HBB23.out b23)
      have HOvx := hide_ (HOvx.out.later b23)
      have hz23a : w22.heap.size ≤ w23a.heap.size := HBB23.out.size
      have hz23 : w23a.heap.size ≤ w23.heap.size := b23.size
      clear k23 b23 x0 x1 x2 x3 y0 y1
      go_upto_region 13 with fail
      rw [← hw23]
      clear hw23 HBB23
      have HOvl := hide_ ((HOvl.out.later HC22.out).later HC23.out)
      have HOvm := hide_ (HOvm.out.later HC23.out)
      have KF20 := hide_ (((KF20.out.later HC21.out).later HC22.out).later HC23.out)
      have KF21 := hide_ ((KF21.out.later HC22.out).later HC23.out)
      have KF22 := hide_ (KF22.out.later HC23.out)
      have f0 := KF20.out.cell 0; have f1 := KF20.out.cell 1
      have f2 := KF21.out.cell 0; have f3 := KF21.out.cell 1
      have f4 := KF22.out.cell 0; have f5 := KF22.out.cell 1
      have f6 := KF23.out.cell 0; have f7 := KF23.out.cell 1
      simp at f0 f1 f2 f3 f4 f5 f6 f7
      obtain ⟨al, cl, el, hrl, -, -⟩ := HOvl.out.row
      obtain ⟨am, cm, em, hrm, -, -⟩ := HOvm.out.row
      obtain ⟨ax, cx, ex, hrx, -, -⟩ := HOvx.out.row
      subst el em ex
      have HRl := hide_ hrl
      have HRm := hide_ hrm
      have HRx := hide_ hrx
      have hne1 : (E != E) = false := by simp
      have hne2 : (F != F) = false := by simp
      clear hrl hrm hrx HC21 HC22 HC23 KF20 KF21 KF22 KF23
      go_wp2_with fail
      refine (sameInts_yes al ax cl cx nums.length nums w23 (hide_ rfl) (by omega) HRl HRx).mono ?_
      rintro e w24 ⟨rfl, hb24⟩
      have HD24 := hide_ (below_to HD23.out hb24)
      have HOvl := hide_ (HOvl.out.later hb24)
      have HOvm := hide_ (HOvm.out.later hb24)
      have hz24 : w23.heap.size ≤ w24.heap.size := hb24.size
      have HRm := hide_ (HRm.out.later hb24)
      have HRx := hide_ (HRx.out.later hb24)
      clear hb24 f0 f1 f2 f3 f4 f5 f6 f7
      go_wp2_with fail
      refine (sameInts_yes am ax cm cx nums.length nums w24 (hide_ rfl) (by omega) HRm HRx).mono ?_
      rintro e w25 ⟨rfl, hb25⟩
      have HD25 := hide_ (below_to HD24.out hb25)
      have HOvl := hide_ (HOvl.out.later hb25)
      have HOvm := hide_ (HOvm.out.later hb25)
      have hz25 : w24.heap.size ≤ w25.heap.size := hb25.size
      clear hb25
      obtain ⟨x0, x1, x2, x3, y0, y1⟩ := HBx.out w25 HD25.out
      go_wp2_with fail
      refine (HKp.out w25 HD25.out).mono ?_
      rintro e w26 ⟨rfl, hb26⟩
      have HD26 := hide_ (below_to HD25.out hb26)
      have HOvl := hide_ (HOvl.out.later hb26)
      have HOvm0 := hide_ (HOvm.out.later hb26)
      have HOvm : Hid (IOwn w26 w20.heap.size (.slice am nums.length cm) nums) := hide_ (own_base (HOvm.out.later hb26) (by omega))
      have HAp := hide_ (apart_yes (.slice al nums.length cl) (.slice am nums.length cm) nums.length w20.heap.size nums nums w26 (hide_ rfl) (hide_ rfl) (by omega) (by have := HD26.out.size; have := hb26.size; omega) HOvl HOvm (hide_ (fun k h1 h2 => by
        have := HLl.out k h1
        have := (HOvm0.out.lies h2).1
        omega)))
      clear hb26 x0 x1 x2 x3 y0 y1
      go_wp2_with fail
      refine HAp.out.mono ?_
      rintro e w27 ⟨rfl, HU27⟩
      have HD27 : Hid (Below wq.heap.size wq w27) := hide_ (HD26.out.trans (HU27.out.below _ HD26.out.size (fun k hk => by
        rcases hk with h | h
        · have := (HOvl.out.lies h).1; omega
        · have := (HOvm.out.lies h).1; omega)))
      have HM27 := hide_ (HAll.out w27 HD27.out)
      have HB27 := hide_ (below_to HB.out HD27.out)
      clear HAp HU27 HOvl HOvm HOvm0 HOvx HRl HRm HRx HLl HAll HBx HVr HCk HCt HCr HKp HD26 HD25 HD24 HD23 HD22 HD21 HD20 HM HB
      go_upto_region 15 with fail
      go_cut [109] from 107 to 109 (fun c wc => ∃ d, c = .bool d ∧ Hid (decide (0 < V.length) = d) ∧ w27 = wc)
      case first =>
        go_wp2_with fail
        go_meet
        case rel => exact ⟨_, rfl, hide_ (by simp), rfl⟩
      case rest =>
      obtain ⟨d, rfl, HDv, rfl⟩ := hcut
      cases d with
      | false =>
        go_wp2_with fail
        go_roundw
        case rel => exact ⟨i + 1, V, by omega, by go_num, hide_ rfl, HNk1, HM27, HB27⟩
        case measure => simp [intOf]; omega
      | true =>
        have hv0 : 0 < V.length := of_decide_eq_true HDv.out
        have hz : ((V.length : Int) == 0) = false := by
          have h1 : (V.length : Int) ≠ 0 := by omega
          simpa using h1
        obtain ⟨r, hr, hrl, hq0, hq1⟩ := rem_in at_ V.length (by omega)
        obtain ⟨q, hq⟩ : ∃ q, at_.tmod (V.length : Int) = q := ⟨_, rfl⟩
        rw [hq] at hr hq0 hq1
        have hrl' : (r : Int) < V.length := by omega
        have hx : V[r]? = some (V[r]'hrl) := List.getElem?_eq_getElem hrl
        obtain ⟨gv, hgv⟩ : ∃ g, av = some ⟨g, 0, none⟩ := by
          obtain ⟨g, c', ys, e, _⟩ := ownS_blk HM27.out.vo (by omega)
          injection e with e _ _
          exact ⟨g, e⟩
        subst hgv
        obtain ⟨p0, p1, p2⟩ := HM27.out.vo.at3 hx
        have pf := fun j => HM27.out.vo.fr j
        generalize V[r]'hrl = x at *
        obtain ⟨xk, xn, xd⟩ := x
        simp only at p0 p1 p2
        have HQ := hide_ hq
        have HRr := hide_ hr
        obtain ⟨n2, hn2⟩ : ∃ n2, bits BinOp.xor IntKind.u64 xn 256 = n2 := ⟨_, rfl⟩
        have hb0 := bits_lo_u64 BinOp.xor xn 256
        have hb1 := bits_hi_u64 BinOp.xor xn 256
        rw [hn2] at hb0 hb1
        obtain ⟨hMp, hgBv, hgBL⟩ := HM27.out.put hw0 hzv hzl hx n2
        have hVo1 := (HM27.out.vo.setN hx n2).at3 (i := r) (x := ⟨xk, n2, xd⟩) (by rw [List.getElem?_set_self hrl])
        have hlb : (w27.setCell ⟨gv, r * 3 + 1, none⟩ (.int .u64 n2)).cell? ⟨g11, 2, none⟩ = some (.slice (some ⟨gV, 0, none⟩) V.length cV) := by
          obtain ⟨ys, hy⟩ := ownS_type HM27.out.vo (k := gv) rfl
          have h := (blk_ne_upd HM27.out.lbox ((Upd.refl (fun q => q = gv) w27).set ⟨gv, r * 3 + 1, none⟩ (.int .u64 n2) (.inl rfl)) hy (by decide)).cell 2
          simpa using h
        have hNo1 : NOwn (w27.setCell ⟨gv, r * 3 + 1, none⟩ (.int .u64 n2)) w6.heap.size (.slice (some ⟨gV, 0, none⟩) (V.length + 1) cV) (V ++ [mqN]) := HM27.out.no.upd ((Upd.refl (fun q => q = gv) w27).set ⟨gv, r * 3 + 1, none⟩ (.int .u64 n2) (.inl rfl)) (fun k hk e => by
          have e1 := own_is hk
          have e2 := HM27.out.lo gv rfl
          omega)
        have hgf := fun j => hNo1.fr j
        obtain ⟨n0, n1, n3⟩ := hNo1.at3 (i := r) (x := ⟨xk, xn, xd⟩) (by rw [List.getElem?_append_left hrl]; exact hx)
        have HMn := hide_ hMp
        have HLn2 : Hid ((V.set r ⟨xk, n2, xd⟩).length = V.length) := hide_ (by rw [List.length_set])
        have HNk2 : Hid (∀ x ∈ V.set r ⟨xk, n2, xd⟩, NvOk x) := hide_ (fun x hx => by
          rcases List.mem_or_eq_of_mem_set hx with h | h
          · exact HNk1.out x h
          · subst h; exact ⟨hb0, by show n2 < _; omega⟩)
        have HBn := hide_ (HB27.out.trans ((((((Upd.refl (fun q => q = gv ∨ q = gV) w27).set ⟨gv, r * 3 + 1, none⟩ (.int .u64 n2) (.inl (.inl rfl))).set ⟨gV, r * 3, none⟩ (.int .i64 xk) (.inl (.inr rfl))).set ⟨gV, r * 3 + 1, none⟩ (.int .u64 n2) (.inl (.inr rfl))).set ⟨gV, r * 3 + 2, none⟩ (.int .i64 xd) (.inl (.inr rfl))).below w.heap.size HB27.out.size (fun k hk => by omega)))
        obtain ⟨w28, hw28⟩ : ∃ wx, wx = w27.setCell ⟨gv, r * 3 + 1, none⟩ (.int .u64 n2) := ⟨_, rfl⟩
        rw [← hw28] at hVo1 hlb n0 n1 n3 HMn HBn
        have hgf2 : ∀ j, w28.frozen? ⟨gV, j, none⟩ = false := fun j => by rw [hw28]; exact hgf j
        simp only at hVo1 n0 n1 n3
        have HSS : Hid (w28.drew.cell? ⟨g11, 2, none⟩ = some (.slice (some ⟨gV, 0, none⟩) V.length cV) ∧ w28.drew.cell? ⟨gv, r * 3, none⟩ = some (.int .i64 xk) ∧ w28.drew.cell? ⟨gv, r * 3 + 1, none⟩ = some (.int .u64 n2) ∧ w28.drew.cell? ⟨gv, r * 3 + 2, none⟩ = some (.int .i64 xd)) := hide_ ⟨hlb, hVo1.1, hVo1.2.1, hVo1.2.2⟩
        clear hv0 hMp hVo1 hgf hNo1
        go_upto_region 17 with fail
        go_upto_region 18 with fail
        (try rw [hn2])
        rw [← hw28]
        clear hw28 p0 p1 p2 pf HM27 HB27 hlb
        refine wp_region_last 8 (fun w' => w'.cell? ⟨g11, 2, none⟩ = some (.slice (some ⟨gV, 0, none⟩) V.length cV) ∧ w'.cell? ⟨gv, r * 3, none⟩ = some (.int .i64 xk) ∧ w'.cell? ⟨gv, r * 3 + 1, none⟩ = some (.int .u64 n2) ∧ w'.cell? ⟨gv, r * 3 + 2, none⟩ = some (.int .i64 xd)) (by kernel_rfl) (HSS.out) (fun hHeld => ?_)
        refine wpAnyF_take [8] (by kernel_rfl) (i := 0) (v := ?vz1) rfl (by kernel_rfl) (by kernel_rfl) (by kernel_rfl) (fun _ _ _ h => h) (Or.inl ⟨by kernel_rfl, ?hyz1⟩) hHeld ?restz1
        case hyz1 => intro w' hSw; (try dsimp only at hSw); go_simp; try with_reducible rfl
        simp only [Act.put]
        refine wpAnyF_take [8] (by kernel_rfl) (i := 1) (v := ?vz2) rfl (by kernel_rfl) (by kernel_rfl) (by kernel_rfl) (fun _ _ _ h => h) (Or.inl ⟨by kernel_rfl, ?hyz2⟩) hHeld ?restz2
        case hyz2 => intro w' hSw; (try dsimp only at hSw); go_simp; try with_reducible rfl
        simp only [Act.put]
        refine wpAnyF_take [8] (by kernel_rfl) (i := 2) (v := ?vz3) rfl (by kernel_rfl) (by kernel_rfl) (by kernel_rfl) (fun _ _ _ h => h) (Or.inl ⟨by kernel_rfl, ?hyz3⟩) hHeld ?restz3
        case hyz3 => intro w' hSw; (try dsimp only at hSw); go_simp; try with_reducible rfl
        simp only [Act.put]
        refine wpAnyF_take [8] (by kernel_rfl) (i := 3) (v := ?vz4) rfl (by kernel_rfl) (by kernel_rfl) (by kernel_rfl) (fun _ _ _ h => h) (Or.inl ⟨by kernel_rfl, ?hyz4⟩) hHeld ?restz4
        case hyz4 => intro w' hSw; (try dsimp only at hSw); go_simp; try with_reducible rfl
        simp only [Act.put]
        refine wpAnyF_take [8] (by kernel_rfl) (i := 4) (v := ?vz5) rfl (by kernel_rfl) (by kernel_rfl) (by kernel_rfl) (fun _ _ _ h => h) (Or.inl ⟨by kernel_rfl, ?hyz5⟩) hHeld ?restz5
        case hyz5 => intro w' hSw; (try dsimp only at hSw); go_simp; try with_reducible rfl
        simp only [Act.put]
        refine wpAnyF_take [8] (by kernel_rfl) (i := 5) (v := ?vz6) rfl (by kernel_rfl) (by kernel_rfl) (by kernel_rfl) (fun _ _ _ h => h) (Or.inl ⟨by kernel_rfl, ?hyz6⟩) hHeld ?restz6
        case hyz6 => intro w' hSw; (try dsimp only at hSw); go_simp; try with_reducible rfl
        simp only [Act.put]
        refine wpAnyF_take [8] (by kernel_rfl) (i := 6) (v := ?vz7) rfl (by kernel_rfl) (by kernel_rfl) (by kernel_rfl) (fun _ _ _ h => h) (Or.inl ⟨by kernel_rfl, ?hyz7⟩) hHeld ?restz7
        case hyz7 => intro w' hSw; (try dsimp only at hSw); go_simp; try with_reducible rfl
        simp only [Act.put]
        refine wpAnyF_take [8] (by kernel_rfl) (i := 7) (v := ?vz8) rfl (by kernel_rfl) (by kernel_rfl) (by kernel_rfl) (fun _ _ _ h => h) (Or.inl ⟨by kernel_rfl, ?hyz8⟩) hHeld ?restz8
        case hyz8 => intro w' hSw; (try dsimp only at hSw); go_simp; try with_reducible rfl
        simp only [Act.put]
        refine wpAnyF_ready (rs := [8]) (by kernel_rfl) (by simp) ?_
        refine AllReadyF.last rfl (fun K hK => ?_)
        go_simp
        refine hK.out _ _ ?_
        clear hK K
        refine wpAnyF_done (by kernel_rfl) ?_ _
        clear HSS hHeld
        go_wp2_with fail
        go_roundw
        case rel => exact ⟨i + 1, _, by omega, by go_num, HLn2, HNk2, hide_ (HMn.out.later ((Below.refl _ _).drew)), hide_ HBn.out.drew⟩
        case measure => simp [intOf]; omega
    · obtain rfl : i = 2 := by omega
      go_wp2
      go_ret
      exact ⟨rfl, HB.out⟩
end Go.Proofs.YtomfidjmbjpceaaDoor
/- TypingExact, out of its walk. The frame round the walk is that of the tool proof-skeleton. -/
namespace Go.Proofs.YtomfidjmbjpceaaDoor.typingExact
open Go.ChangeMaps Go.ChangeShapes Go.WideShapes Go.ChangeAt Go.RowKit
set_option linter.unusedVariables false

theorem own : ownKnob Tryd.prog.godebug = none := by kernel_rfl
theorem laidOut : laidOutB Tryd.prog = true := by kernel_rfl
theorem cellsI : Tryd.prog.cellsOf 3 = 1 := by kernel_rfl
theorem bytesI : Tryd.prog.bytesOf 3 = 8 := by kernel_rfl
theorem cellsNd : Tryd.prog.cellsOf 49 = 3 := by kernel_rfl
theorem gK : Tryd.prog.globalNamed "mortise/typing.nodeKinds" = some 0 := by kernel_rfl
theorem gKT : (Tryd.prog.globals[0]?).map (·.type) = some 83 := by kernel_rfl
theorem cellsK : Tryd.prog.cellsOf 83 = 9 := by kernel_rfl
theorem laid_k : (Rows.laid_mortise_typing_nodeKinds : DataW Unit) = Lib.tabData .i64 nkT := by kernel_rfl
theorem tab_of {W : World} (h : laidMetH Tryd.prog Rows.typingExactRow.laid W) : Tab W := by
  have h1 : laidMet Tryd.prog [("mortise/typing.nodeKinds", Rows.laid_mortise_typing_nodeKinds)] W := h
  rw [laid_k] at h1
  have h3 := Lib.tabIs_of_head (e := 3) gK gKT (by kernel_rfl) (by kernel_rfl) (by kernel_rfl) cellsK h1
  exact ⟨World.block_lt_of_cell? W _ (h3.cell gK 0 (by decide)), fun i hi => h3.cell gK i (by simpa [nkT] using hi)⟩
/-- The settled world w, the table (block 0) holding what its initialiser lays. -/
def laidIn (w : World) : World :=
  { w with heap := w.heap.modify 0 fun
      | .cells _ t frozen => .cells (nkT.map fun z => Value.int .i64 z).toArray t frozen
      | o => o }
theorem node_open {H : Type} {enc : TypeId × Value → H} {w : World} {base : Nat} {held : Bool} {fuel : Nat} {cs : List Value} {y : DataW H × List MemPlace} (h : DataW.trod enc Tryd.prog w base (fun _ => true) held fuel 49 cs = some y) : ∃ x : Nv, cs = nvc x ∧ NvOk x := by
  obtain ⟨hl, m, hf⟩ := field_read Tryd.underlying49 h
  rw [cellsNd] at hl
  obtain ⟨c0, c1, c2, rfl⟩ := len3R hl
  obtain ⟨y0, t0⟩ := hf 0 _ c0 rfl (by kernel_rfl) rfl
  obtain ⟨y1, t1⟩ := hf 1 _ c1 rfl (by kernel_rfl) rfl
  obtain ⟨y2, t2⟩ := hf 2 _ c2 rfl (by kernel_rfl) rfl
  obtain ⟨a0, k0, _, _⟩ := DataW.trod_int Tryd.underlying3 t0
  obtain ⟨a1, k1, hw1, _⟩ := DataW.trod_int Tryd.underlying47 t1
  obtain ⟨a2, k2, _, _⟩ := DataW.trod_int Tryd.underlying3 t2
  simp at k0 k1 k2
  subst k0 k1 k2
  refine ⟨⟨a0, a1, a2⟩, rfl, ?_⟩
  have h64 : (Lit.int .u64 a1).wf = true := by first | assumption | exact hw1.1 | exact hw1
  have h65 : IntKind.u64.min ≤ a1 ∧ a1 ≤ IntKind.u64.max := by simpa [Lit.wf] using h64
  have e1 : IntKind.u64.min = 0 := by decide
  have e2 : IntKind.u64.max = 18446744073709551615 := by decide
  rw [e1, e2] at h65
  exact ⟨by show 0 ≤ a1; omega, by show a1 < _; omega⟩
theorem bytesNd : Tryd.prog.bytesOf 49 = 24 := by kernel_rfl
theorem nodes_open {H : Type} {enc : TypeId × Value → H} {w : World} {base : Nat} {held : Bool} {fuel : Nat} {c : Value} {y : DataW H × List MemPlace} (h : DataW.trod enc Tryd.prog w base (fun _ => true) held fuel 31 [c] = some y) (hw : ∀ k ∈ y.1.weights Tryd.prog 31, k ≤ 140737488351232) :
    ∃ a cap N, c = .slice a N.length cap ∧ N.length ≤ cap ∧ (a = none → cap = 0) ∧ VRow w a N ∧ (∀ x ∈ N, NvOk x) ∧ N.length ≤ 5864062014634 := by
  obtain ⟨a, n, cap, rfl, hc, hz, _⟩ := slice_formR Tryd.underlying31 h
  have hb : n ≤ 5864062014634 := by
    rcases slice_weightR Tryd.underlying31 h with h0 | ⟨k, h1, h2⟩
    · omega
    · have := hw _ h2
      rw [bytesNd] at this
      omega
  rcases structs_weigh Tryd.underlying31 (by rw [cellsNd]; omega) h with h0 | ⟨b, off, m, rfl, hbl, hlc, hcm, hel⟩
  · subst h0
    exact ⟨a, cap, [], rfl, hc, hz, .inl rfl, (fun x hx => by cases hx), by simp⟩
  · rw [cellsNd] at hel
    obtain ⟨N, hN, hQ⟩ := list_ofR n (fun i (x : Nv) => NvOk x ∧ ∀ j, j < 3 → w.cell? ⟨b, off + i * 3 + j, none⟩ = (nvc x)[j]?) (fun i hi => by
      obtain ⟨cs, z, _, hcell, ht, hzz⟩ := hel i hi
      obtain ⟨x, rfl, hx⟩ := node_open ht
      exact ⟨x, hx, hcell⟩)
    subst hN
    refine ⟨some ⟨b, off, none⟩, cap, N, rfl, hc, hz, .inr ⟨b, off, rfl, hbl, fun i x hx => (hQ i x hx).2⟩, fun x hx => ?_, hb⟩
    obtain ⟨i, hi⟩ := List.mem_iff_getElem?.1 hx
    exact (hQ i x hi).1
theorem bound8 {cap : Nat} {l : List Nat} (h : cap = 0 ∨ cap * Tryd.prog.bytesOf 3 ∈ l) (hl : ∀ n ∈ l, n ≤ 140737488351232) : cap ≤ 17592186043904 := by
  rcases h with h | h
  · omega
  · have := hl _ h
    rw [bytesI] at this
    omega
set_option maxRecDepth 100000 in
theorem contract (H : Type) (enc : TypeId × Value → H) (W : World) (base : Nat) (args : Array Value) (ds gs : List (DataW H)) (before : List MemPlace)
    (hval : ∀ (j : Nat) t v, Tryd.f4.params[j]? = some t → args[j]? = some v → Value.okWide Tryd.prog W .any base t v)
    (hW : DataW.Whole enc Tryd.prog Tryd.f4.params.toList Rows.typingExactSpec.vars false W args.toList ds gs before) (hsz0 : (DataW.weightsEach Tryd.prog (Tryd.f4.params.toList ++ Rows.typingExactSpec.plain.varTypes Tryd.prog) (ds ++ gs)).all (· ≤ reachBytes) = true) (hL : laidMetH Tryd.prog Rows.typingExactRow.laid W) :
    Calls Tryd.prog 4 args W fun e W' => ∃ v, e = .returned v ∧ Rows.typingExactSpec.post enc Tryd.prog Tryd.f4 false true false false W args v W' := by
  have hsz := hsz0
  have hW' := hW
  obtain ⟨p, q, hA0, hV, rfl, hfz, hnd⟩ := hW
  have hA : DataW.TrodAll enc Tryd.prog W 0 (fun _ => true) true Tryd.f4.params.toList args.toList ds p := hA0
  rw [Tryd.params4] at hA hval hsz
  obtain ⟨v0, vs0, d0, ds0, p0, q0, hargs, rfl, rfl, h0, r0⟩ := trodAll_cons hA
  obtain ⟨v1, vs1, d1, ds1, p1, q1, rfl, rfl, rfl, h1, r1⟩ := trodAll_cons r0
  obtain ⟨v2, vs2, d2, ds2, p2, q2, rfl, rfl, rfl, h2, r2⟩ := trodAll_cons r1
  obtain ⟨v3, vs3, d3, ds3, p3, q3, rfl, rfl, rfl, h3, r3⟩ := trodAll_cons r2
  obtain ⟨rfl, rfl, rfl⟩ := trodAll_nil r3
  obtain rfl : args = #[v0, v1, v2, v3] := by cases args; simp_all
  obtain ⟨rfl, rfl⟩ := trodVars_none hV
  obtain ⟨cs0, rfl, _⟩ := okWide_struct Tryd.underlying25 (hval 0 25 v0 rfl rfl)
  obtain ⟨a2, len2, cap2, rfl⟩ := okWide_slice Tryd.underlying31 (hval 2 31 v2 rfl rfl)
  obtain ⟨n1, rfl, rfl, rfl, w1⟩ := open_int Tryd.underlying3 (hval 1 3 v1 rfl rfl) h1
  obtain ⟨n3, rfl, rfl, rfl, w3⟩ := open_int Tryd.underlying3 (hval 3 3 v3 rfl rfl) h3
  have hN3 := bounds_i64 w3
  have k0 := h0
  have lt0 : ∀ x ∈ p0, x.block < W.heap.size := by obtain ⟨m, hm⟩ := k0; exact DataW.trod_lt m _ _ _ hm
  have k2 := h2
  have lt2 : ∀ x ∈ p2, x.block < W.heap.size := by obtain ⟨m, hm⟩ := k2; exact DataW.trod_lt m _ _ _ hm
  have walk : Calls Tryd.prog 4 #[.agg cs0, .int .i64 n1, .slice a2 len2 cap2, .int .i64 n3] W fun e w' => e = .returned (.bool true) ∧ Below W.heap.size W w' := by
    obtain ⟨f0, hf0⟩ := h0
    obtain ⟨f2, hf2⟩ := h2
    have reach : ∀ (n : Nat), decide (n ≤ reachBytes) = true → n ≤ 140737488351232 := fun n hm => by
      have hm2 : n ≤ reachBytes := of_decide_eq_true hm
      rw [show reachBytes = 140737488351232 from rfl] at hm2
      exact hm2
    obtain ⟨b2, c2, N, e2, hnc2, hnil2, hrow2, hok2, hlen2⟩ := nodes_open hf2 (fun n hn => reach n (List.all_eq_true.1 hsz _ (DataW.weights_mem_each (j := 2) rfl rfl _ hn)))
    injection e2 with e21 e22 e23
    subst e21 e22 e23
    obtain ⟨a, cap, T, ar, cr, R, hcs, htc, htn, hT, hWt, hrc, hrn, hR, hRl⟩ := schema_open hf0 (fun n hn => reach n (List.all_eq_true.1 hsz _ (DataW.weights_mem_each (j := 0) rfl rfl _ hn)))
    have e0 : cs0 = #[.slice a T.length cap, .slice ar R.length cr] := Array.toList_inj.1 hcs
    subst e0
    have h1t := hWt.1
    exact texact_any a cap T ar cr R n1 n3 a2 cap2 N W (by omega) (by omega) hrc hrn (hide_ hWt.lens) (hide_ hT) (hide_ hR) (by omega) hnc2 hnil2 (hide_ hrow2) (hide_ hok2) hN3 (hide_ (tab_of hL))
  clear hA0
  refine walk.mono fun e W' ⟨he, bel⟩ => ?_
  subst he
  exact ⟨_, rfl, _, _, _, [], _, [], hW', trodAll_mk1 (shut_bool Tryd.underlying4 _), (trodAll_cons_mk (Below.trod laidOut (by kernel_rfl) (of_decide_eq_true (by kernel_rfl)) k0 bel lt0) (trodAll_cons_mk (shut_int Tryd.underlying3 w1) (trodAll_cons_mk (Below.trod laidOut (by kernel_rfl) (of_decide_eq_true (by kernel_rfl)) k2 bel lt2) (trodAll_cons_mk (shut_int Tryd.underlying3 w3) trodAll_mk0)))), rfl, bel.frame _, fun h => by cases h⟩

def wit : Array Value := #[.agg #[.slice none 0 0, .slice none 0 0], .int .i64 0, .slice none 0 0, .int .i64 0]
theorem laid_met (os : Os) : laidMet Tryd.prog Rows.typingExactRow.laid ((laidIn (World.holding Tryd.prog os ⟨#[], #[], []⟩)).forCall (fun _ _ => 0) ⟨#[], wit, []⟩).memory :=
  laidMet_of_run' 8 (by kernel_rfl) (by kernel_rfl)
theorem reads (os : Os) {H : Type} (enc : TypeId × Value → H) : ∃ ds places, DataW.whole enc Tryd.prog ((laidIn (World.holding Tryd.prog os ⟨#[], #[], []⟩)).forCall (fun _ _ => 0) ⟨#[], wit, []⟩).memory Tryd.f4.params.toList Rows.typingExactSpec.vars false wit.toList 8 = some (ds, [], places) :=
  ⟨[.agg [.nil, .nil], .lit (.int .i64 0), .nil, .lit (.int .i64 0)], [], by kernel_rfl⟩

set_option maxRecDepth 100000 in
theorem lifted (os : Os) (started : os.Started) (H : Type) (enc : TypeId × Value → H) (F : Stop.Interp) :
    ReturnsInHanded {} Tryd.checked os 4 .any ((OpenSpec.ofChange Rows.typingExactSpec).preRow enc Tryd.prog Tryd.f4 Rows.typingExactRow.domain false Rows.typingExactRow.laid) (((OpenSpec.ofChange Rows.typingExactSpec).at F).post enc Tryd.prog Tryd.f4 false true false false) := by
  obtain ⟨ds, places, hx⟩ := reads os enc
  refine returnsInHanded_of_row (C := Tryd.checked) (s := OpenSpec.ofChange Rows.typingExactSpec) own started (by kernel_rfl) Tryd.func4
    (witness_row_at (enc := enc) (C := Tryd.checked) false (laidIn (World.holding Tryd.prog os ⟨#[], #[], []⟩)) wit rfl (by kernel_rfl) (by kernel_rfl) (by kernel_rfl)
      (OpenSpec.preRow_of_cond 8 hx (by kernel_rfl) (fun k hk => by cases hk) (by kernel_rfl) (laid_met os))) ?_
  intro W base args ds gs before hval hW _ _ hsz hL _ _
  exact contract H enc W base args ds gs before hval hW hsz hL

theorem said : Rows.TypingExactSaid :=
  OpenClaim.holds_of_cond 4 Tryd.f4 rfl rfl rfl rfl rfl rfl rfl ⟨rfl, rfl, rfl, rfl, rfl⟩ rfl rfl rfl rfl rfl (by kernel_rfl) Tryd.func4 (by kernel_rfl)
    (of_decide_eq_true (by kernel_rfl)) (by unfold Func.isWrapper; first | (rw [if_pos (by decide +kernel)]; kernel_rfl) | (rw [if_neg (by decide +kernel)]; exact ⟨rfl, rfl⟩))
    (fun os started H enc _ F => by rw [OpenClaim.pre_eq_preRow]; exact lifted os started H enc F)

theorem plain (f : FuncId) (fn : Func) (hf : Tryd.pinned.checked.prog.funcNamed "mortise/mortiselaw11.TypingExact" = some f) (hfn : Tryd.pinned.checked.prog.funcs[f]? = some fn) :
    false = Tryd.pinned.checked.prog.looks [] ∧ ∀ (j : Nat) t, fn.params[j]? = some t → Tryd.pinned.checked.prog.wantsStandIn t = false := by
  obtain rfl : f = 4 := Option.some.inj ((show Tryd.prog.funcNamed "mortise/mortiselaw11.TypingExact" = some 4 by kernel_rfl).symm.trans hf) |>.symm
  obtain rfl : fn = Tryd.f4 := (Option.some.inj (Tryd.func4.symm.trans hfn)).symm
  refine ⟨by kernel_rfl, fun j t ht => ?_⟩
  rw [Tryd.params4] at ht
  have hm := Array.mem_of_getElem? ht
  simp only [List.mem_toArray, List.mem_cons, List.not_mem_nil, or_false] at hm
  rcases hm with rfl | rfl | rfl | rfl <;> (show Tryd.prog.wantsStandIn _ = false; kernel_rfl)

theorem card : Rows.TypingExactCardSaid :=
  Claim7.holds_tied_plain_at .later [] _ _ _ _ said (fun _ h => by cases h) (by kernel_rfl) (fun _ h => by cases h) typingExact_row_tie rfl ⟨rfl, rfl⟩ (by kernel_rfl) rfl plain (by kernel_rfl)
end Go.Proofs.YtomfidjmbjpceaaDoor.typingExact
namespace Go.Proofs.YtomfidjmbjpceaaDoor
theorem typingExact_holds : Rows.TypingExactCardSaid := typingExact.card
#print axioms typingExact_holds
end Go.Proofs.YtomfidjmbjpceaaDoor
