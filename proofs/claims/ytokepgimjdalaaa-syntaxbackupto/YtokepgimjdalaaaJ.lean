/- Cut. -/
import Derived.Test.YtokepgimjdalaaaI
namespace Go.Proofs.Ytokepgimjdalaaa
open Go.RowKit
set_option linter.unusedVariables false

def cellsT (ts : List Tk) : List Value := ts.flatMap tkc
theorem cellsT_app (a b : List Tk) : cellsT (a ++ b) = cellsT a ++ cellsT b := by simp [cellsT]
theorem cellsT_one (t : Tk) : cellsT [t] = tkc t := by simp [cellsT]
theorem cellsT_len (ts : List Tk) : (cellsT ts).length = ts.length * 5 := by
  induction ts with
  | nil => rfl
  | cons x N ih => rw [cellsT, List.flatMap_cons, List.length_append]; rw [cellsT] at ih; rw [ih]; simp [tkc]; omega
theorem push_tok {w : World} {B : Nat} {v : Value} {ts : List Tk} (h : w.ownsRow B 42 5 v ts.length (cellsT ts)) (t : Tk) (hl : ts.length ≤ 1000000000) (hB : B ≤ w.heap.size) :
    ∃ v' w', (Builtin.append_ #[33, 33] 33 #[v, .slice (some ⟨w.heap.size, 0, none⟩) 1 1]).run Try.prog (w.alloc (.cells #[.int .i64 t.k, .string t.t, .int .i64 t.n, .int .i64 t.a, .int .i64 t.e] 42)) = .ok v' w' ∧
      w'.ownsRow B 42 5 v' (ts ++ [t]).length (cellsT (ts ++ [t])) ∧ Upd (fun k => v.ownBlock = some k) w w' := by
  obtain ⟨g, cap, w', r1, o1, u1, -⟩ := run_pushS (P := Try.prog) (t := 33) (e := 42) (z := .agg #[.int .i64 0, .string ⟨#[]⟩, .int .i64 0, .int .i64 0, .int .i64 0]) (bytes := 48) Try.underlying33 (by kernel_rfl) rfl (by decide) w 33 h (tkc t) rfl (by intro u hu; simp [tkc] at hu; rcases hu with rfl | rfl | rfl | rfl | rfl <;> rfl) (by unfold maxLen; omega) (by omega) hB
  refine ⟨_, w', r1, ?_, u1⟩
  rw [cellsT_app, cellsT_one, List.length_append]
  exact o1
theorem ret10 {R : Ending → World → Prop} {tmps : Array Value} {g : Nat} {x y : Value} {w : World} (hp : tmps.getD 3 undef = .pointer (some ⟨g, 0, none⟩)) (hK : Blk w g 28 [x, y]) (hR : R (.returned (.tuple #[tmps.getD 2 undef, .agg #[x, y]])) w) :
    bodyPost Try.prog Try.f12 R Exit.ret ⟨tmps, []⟩ w :=
  bodyPost_ret (results_tmp_cell_row rfl _ _ _ _ #[x, y] _ _ hp hK Try.underlying28 rfl (by show _ = some 2; kernel_rfl)) rfl hR
theorem ne26 {w : World} {B g n c : Nat} {v : Value} {xs ys : List Value} (h : w.ownsRow B 42 c v n xs) (hb : Blk w g 28 ys) : v.ownBlock ≠ some g := fun e => by
  obtain ⟨zs, hz⟩ := ownS_type h e
  exact absurd (blk_type hb hz) (by decide)
/-- Cut's answer. -/
def CutTo (s : ByteArray) (w : World) (e : Ending) (w' : World) : Prop :=
  ∃ v, e = .returned (.tuple #[v, .agg #[.int .i64 (cutT s).2.1, .int .i64 (cutT s).2.2]]) ∧ Hid (w'.ownsRow w.heap.size 42 5 v (cutT s).1.length (cellsT (cutT s).1)) ∧ Hid (Below w.heap.size w w')
set_option maxRecDepth 100000 in
set_option maxHeartbeats 4000000 in
theorem cut_any (s : ByteArray) (w : World) : Calls Try.prog 12 #[.string s] w fun e w' => CutTo s w e w' := by
  by_cases hs : 65536 < s.size
  · have hs' : (65536 : Int) < s.size := by omega
    have HC : Hid (cutT s = ([], 4, 0)) := by show _ = _; rw [cutT, if_pos hs]
    go_enter Try.func12, Try.ntmps12
    go_wp2
    go_step3
    go_wp2
    rw [Exit.noGoto_ret]
    refine ret10 rfl (Blk.newA w _ 28) ⟨_, by rw [HC.out]; rfl, by rw [HC.out]; exact World.ownsRow_nil _ _ _ _, (Below.refl _ _).alloc (Nat.le_refl _) _⟩
  have hs' : (s.size : Int) ≤ 65536 := by omega
  have HC : Hid (cutT s = cut s.data.toList 0) := by show _ = _; rw [cutT, if_neg hs]
  go_enter Try.func12, Try.ntmps12
  go_wp2_with fail
  go_step3
  go_wp2_with fail
  go_step3
  go_wp2_with fail
  go_loopw [4, 5] (fun x4 x5 wr => ∃ (v : Value) (q : Nat) (ts : List Tk), v = x4 ∧ x5 = .int .i64 q ∧ q ≤ s.size ∧ ts.length ≤ q ∧ Hid (cut s.data.toList 0 = apps ts (cut (s.data.toList.drop q) q)) ∧ Hid (wr.ownsRow w.heap.size 42 5 v ts.length (cellsT ts)) ∧ Hid (Blk wr w.heap.size 28 [.int .i64 0, .int .i64 0]) ∧ Hid (Below w.heap.size w wr)) (fun _ q _ => s.size - (intOf q).toNat)
  case atStart => exact ⟨_, 0, [], rfl, rfl, Nat.zero_le _, Nat.zero_le _, by rw [List.drop_zero, apps_nil]; exact rfl, World.ownsRow_nil _ _ _ _, Blk.newA w _ 28, (Below.refl _ _).alloc (Nat.le_refl _) _⟩
  case round =>
    obtain ⟨v, q, ts, rfl, rfl, hq, hts, HE, HV, HK, HB⟩ := hrel
    generalize wr = wq at *
    by_cases hlt : q < s.size
    · have hlt' : (q : Int) < s.size := by omega
      have h5 := @step_sharp s q hlt
      have h4 := @step_blank s q hlt
      have h3 := @step_bad s q hlt
      have h2 := @step_tok s q hlt
      have hcut := tokenAt_any s q wq (by omega) hlt
      obtain ⟨c, hc⟩ : ∃ c, s[q]'hlt = c := ⟨_, rfl⟩
      rw [hc] at h5 h4 h3 h2
      by_cases hsh : (c.toNat : Int) = 35
      · obtain ⟨k1, k2, k3⟩ := h5 (by simp [sharp]; omega)
        have k4 : q < q + ((s.data.toList.drop q).takeWhile inl).length := by omega
        have HE2 := HE.out
        rw [k1] at HE2
        have hb : ((c.toNat : Int) == 35) = true := by simp [hsh]
        have hrm := remark_any s q wq (by omega) (by omega)
        generalize q + ((s.data.toList.drop q).takeWhile inl).length = q' at *
        have HE3 := hide_ HE2
        have HR := hide_ hrm
        clear h5 h4 h3 h2 hcut k1 HE2 hrm HE
        go_wp2_with fail
        refine HR.out.mono ?_; rintro e w' ⟨rfl, rfl⟩
        go_wp2
        go_roundw
        case rel => exact ⟨v, q', ts, rfl, rfl, by omega, by omega, HE3, HV, HK, HB⟩
        case measure => simp [intOf]; omega
      have hb35 : ((c.toNat : Int) == 35) = false := by simpa using hsh
      have hsh' : sharp c = false := by simp [sharp]; omega
      cases hbl : blank c with
      | true =>
        have HE2 := HE.out
        rw [h4 hbl] at HE2
        have HE3 := hide_ HE2
        clear h5 h4 h3 h2 hcut HE2 HE
        have h32 : (c.toNat : Int) = 32 ∨ (c.toNat : Int) = 9 ∨ (c.toNat : Int) = 10 := by simp [blank] at hbl; omega
        obtain ⟨x, hx⟩ : ∃ x : Int, (c.toNat : Int) = x := ⟨_, rfl⟩
        rw [hx] at h32 hb35 hsh
        rcases h32 with rfl | rfl | rfl
        all_goals
          go_wp2
          go_roundw
          case rel => exact ⟨v, q + 1, ts, rfl, by go_num, by omega, by omega, HE3, HV, HK, HB⟩
          case measure => simp [intOf]; omega
      | false =>
        have h32 : ((c.toNat : Int) == 32) = false ∧ ((c.toNat : Int) == 9) = false ∧ ((c.toNat : Int) == 10) = false := by simp [blank] at hbl; simp; omega
        obtain ⟨i1, i2, i3⟩ := h32
        have HCt := hide_ hcut
        clear h5 h4 hcut
        have h3 := h3 hbl hsh'
        have h2 := h2 hbl hsh'
        by_cases he : erW (wAt s q) = 0
        · obtain ⟨n, n1, n2, n3, n4, n5⟩ := h2 he
          rw [he, n4] at HCt
          have HE2 := HE.out
          rw [n5, apps_app] at HE2
          have HE3 := hide_ HE2
          clear h3 h2 he n4 n5 HE HE2
          obtain ⟨T, hT⟩ : ∃ T, tkW (wAt s q) q = T := ⟨_, rfl⟩
          rw [hT] at HCt HE3 n3
          clear hT
          go_wp2_with fail
          refine HCt.out.mono ?_; rintro e w2 ⟨rfl, hB2⟩
          clear HCt
          have HV2 := hide_ (ownS_upd HV.out (Upd.of_below (S := fun _ => False) hB2) (fun _ _ h => h))
          have HK2 := hide_ (HK.out.later hB2)
          have HB2 := hide_ (HB.out.trans (hB2.mono HB.out.size))
          clear HV HK HB hB2
          obtain ⟨wA, hwA⟩ : ∃ wA, wA = w2.alloc (.cells #[.int .i64 T.k, .string T.t, .int .i64 T.n, .int .i64 T.a, .int .i64 T.e] 42) := ⟨_, rfl⟩
          have KA : Blk wA w2.heap.size 42 [.int .i64 T.k, .string T.t, .int .i64 T.n, .int .i64 T.a, .int .i64 T.e] := by rw [hwA]; exact Blk.newA w2 _ 42
          have HBA0 : Below w2.heap.size w2 wA := by rw [hwA]; exact (Below.refl _ _).alloc (Nat.le_refl _) _
          have HVA := hide_ (ownS_upd HV2.out (Upd.of_below (S := fun _ => False) HBA0) (fun _ _ h => h))
          have HKA := hide_ (HK2.out.later HBA0)
          have HBA := hide_ (HB2.out.trans (HBA0.mono HB2.out.size))
          obtain ⟨v9, w9, r9, o9, u9⟩ := push_tok HVA.out T (by omega) HBA.out.size
          have R9 := hide_ r9
          have HV9 := hide_ o9
          have HK9 := hide_ (HKA.out.upd u9 (ne26 HVA.out HKA.out))
          have HB9 := hide_ (HBA.out.trans (u9.below _ HBA.out.size fun k hk => (HVA.out.lt k hk).1))
          have K9 := KA.upd u9 (fun e => by have h2 := (HV2.out.lt _ e).2; omega)
          have d4 : w9.cell? ⟨w2.heap.size, 4, none⟩ = some (.int .i64 T.e) := K9.cell 4
          have HTe : Hid ((T.e : Int) = q + n) := by show _ = _; rw [n3]; omega
          clear n3
          have a0 : wA.cell? ⟨w2.heap.size, 0, none⟩ = some (.int .i64 T.k) := KA.cell 0
          have a1 : wA.cell? ⟨w2.heap.size, 1, none⟩ = some (.string T.t) := KA.cell 1
          have a2 : wA.cell? ⟨w2.heap.size, 2, none⟩ = some (.int .i64 T.n) := KA.cell 2
          have a3 : wA.cell? ⟨w2.heap.size, 3, none⟩ = some (.int .i64 T.a) := KA.cell 3
          have a4 : wA.cell? ⟨w2.heap.size, 4, none⟩ = some (.int .i64 T.e) := KA.cell 4
          clear HVA HKA HBA HBA0 HV2 HK2 HB2 r9 o9 u9 K9 KA
          unfold tkv
          go_upto_region 14 with fail
          rw [← hwA]
          clear hwA
          go_wp2_with (at_builtin; have _t := R9; refine wpList_append_run rfl (.tmp 41) (.tmp 43) 33 33 rfl rfl rfl R9.out ?_; clear R9)
          go_roundw
          case rel => exact ⟨v9, q + n, ts ++ [T], rfl, by first | (rw [HTe.out]; go_num) | go_num, by omega, by simp; omega, HE3, HV9, HK9, HB9⟩
          case measure => rw [HTe.out]; simp [intOf]; omega
        · have HE2 := HE.out
          rw [h3 he] at HE2
          have hap : apps ts ([], erW (wAt s q), q) = ([], erW (wAt s q), q) := by unfold apps; rw [if_neg he]
          rw [hap] at HE2
          have HE3 := hide_ (HC.out.trans HE2)
          have he' : ((erW (wAt s q) : Int) == 0) = false := by simp; exact he
          clear h3 h2 HE HE2 hap
          obtain ⟨E, hE⟩ : ∃ E, erW (wAt s q) = E := ⟨_, rfl⟩
          obtain ⟨T, hT⟩ : ∃ T, tkO (wAt s q) q = T := ⟨_, rfl⟩
          rw [hE] at HCt HE3 he' he
          rw [hT] at HCt
          clear hT hE
          go_wp2_with fail
          refine HCt.out.mono ?_; rintro e w2 ⟨rfl, hB2⟩
          have HK2 := hide_ (((HK.out.later hB2)).alloc (.cells #[.int .i64 T.k, .string T.t, .int .i64 T.n, .int .i64 T.a, .int .i64 T.e] 42))
          have HB2 := hide_ ((HB.out.trans (hB2.mono HB.out.size)).alloc (by have h1 := HB.out.size; have h2 := hB2.size; omega) (.cells #[.int .i64 T.k, .string T.t, .int .i64 T.n, .int .i64 T.a, .int .i64 T.e] 42))
          clear HCt HV HK HB hB2
          have z0 := HK2.out.frozen 0; have z1 := HK2.out.frozen 1
          have e0 := HK2.out.cell 0; have e1 := HK2.out.cell 1
          simp at e0 e1
          unfold tkv
          go_wp2
          rw [Exit.noGoto_ret]
          refine ret10 rfl ((HK2.out.set 0 _).set 1 _) ⟨_, by rw [HE3.out], by rw [HE3.out]; exact World.ownsRow_nil _ _ _ _, (HB2.out.setCell (Nat.le_refl _) _).setCell (Nat.le_refl _) _⟩
    · obtain rfl : q = s.size := by omega
      have HE2 := HE.out
      rw [List.drop_of_length_le (by rw [← Lib.size_eq]; exact Nat.le_refl _), cut_nil] at HE2
      have hap : apps ts ([], 0, 0) = (ts, 0, 0) := by simp [apps]
      rw [hap] at HE2
      have HE3 := hide_ (HC.out.trans HE2)
      clear HE HE2 hap
      have z0 := HK.out.frozen 0; have z1 := HK.out.frozen 1
      have e0 := HK.out.cell 0; have e1 := HK.out.cell 1
      simp at e0 e1
      go_wp2
      try rw [Exit.noGoto_ret]
      refine ret10 rfl ((HK.out.set 0 _).set 1 _) ⟨v, by rw [HE3.out]; rfl, ?_, (HB.out.setCell (Nat.le_refl _) _).setCell (Nat.le_refl _) _⟩
      rw [HE3.out]
      exact ownS_upd HV.out (((Upd.refl (fun k => k = w.heap.size) wq).set _ _ (.inl rfl)).set _ _ (.inl rfl)) (fun k hk e1 => ne26 HV.out HK.out (by rw [hk, e1]))
end Go.Proofs.Ytokepgimjdalaaa
