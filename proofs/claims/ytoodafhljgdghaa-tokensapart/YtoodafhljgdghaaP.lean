/- The document's Cut. -/
import Derived.Test.YtoodafhljgdghaaO
namespace Go.Proofs.Ytoodafhljgdghaa
open Go.RowKit
set_option linter.unusedVariables false

def cutB (rm : Bool) (l : List UInt8) (p : Nat) : Cu := if rm then cutR l p else cut l p
def CutDTo (s : ByteArray) (w : World) (e : Ending) (w' : World) : Prop :=
  ∃ v, e = .returned (.tuple #[v, .int .i64 (cutT s).2.1, .int .i64 (cutT s).2.2]) ∧ Hid (w'.ownsRow w.heap.size 34 5 v (cutT s).1.length (cellsT (cutT s).1)) ∧ Hid (Below w.heap.size w w')
theorem stepR {s : ByteArray} {q : Nat} (hq : q < s.size) : cutR (s.data.toList.drop q) q = cutB (inl (s[q]'hq)) (s.data.toList.drop (q + 1)) (q + 1) := by
  rw [drop_at s q hq]
  unfold cutB
  cases h : inl (s[q]'hq) with
  | true => rw [cutR_inl h]; rfl
  | false => rw [cutR_end h]; rfl
theorem step_sharpR {s : ByteArray} {q : Nat} (hq : q < s.size) (h : sharp (s[q]'hq) = true) : cut (s.data.toList.drop q) q = cutR (s.data.toList.drop (q + 1)) (q + 1) := by
  rw [drop_at s q hq, cut_sharpR h]
set_option maxRecDepth 100000 in
set_option maxHeartbeats 4000000 in
theorem cutD_any (s : ByteArray) (w : World) : Calls Try.prog 26 #[.string s] w fun e w' => CutDTo s w e w' := by
  by_cases hs : 65536 < s.size
  · have hs' : (65536 : Int) < s.size := by omega
    have HC : Hid (cutT s = ([], 4, 0)) := by show _ = _; rw [cutT, if_pos hs]
    go_enter Try.func26, Try.ntmps26
    go_wp2
    go_ret3
    exact ⟨_, by rw [HC.out]; rfl, by rw [HC.out]; exact World.ownsRow_nil _ _ _ _, Below.refl _ _⟩
  have hs' : (s.size : Int) ≤ 65536 := by omega
  have HC : Hid (cutT s = cut s.data.toList 0) := by show _ = _; rw [cutT, if_neg hs]
  go_enter Try.func26, Try.ntmps26
  go_wp2_with fail
  go_loopw [5, 6, 7] (fun x5 x6 x7 wr => ∃ (v : Value) (rm : Bool) (q : Nat) (ts : List Tk), v = x5 ∧ x6 = .bool rm ∧ x7 = .int .i64 q ∧ q ≤ s.size ∧ ts.length ≤ q ∧ Hid (cut s.data.toList 0 = apps ts (cutB rm (s.data.toList.drop q) q)) ∧ Hid (wr.ownsRow w.heap.size 34 5 v ts.length (cellsT ts)) ∧ Hid (Below w.heap.size w wr)) (fun _ _ q _ => s.size - (intOf q).toNat)
  case atStart => exact ⟨_, false, 0, [], rfl, rfl, rfl, Nat.zero_le _, Nat.zero_le _, by show _ = apps [] (cut _ 0); rw [List.drop_zero, apps_nil], World.ownsRow_nil _ _ _ _, Below.refl _ _⟩
  case round =>
    obtain ⟨v, rm, q, ts, rfl, rfl, rfl, hq, hts, HE, HV, HB⟩ := hrel
    generalize wr = wq at *
    by_cases hlt : q < s.size
    · have hlt' : (q : Int) < s.size := by omega
      have h6 := @stepR s q hlt
      have h5 := @step_sharpR s q hlt
      have h4 := @step_blank s q hlt
      have h3 := @step_bad s q hlt
      have h2 := @step_tok s q hlt
      have hcut := oneD_any s q wq (by omega) hlt
      obtain ⟨c, hc⟩ : ∃ c, s[q]'hlt = c := ⟨_, rfl⟩
      rw [hc] at h6 h5 h4 h3 h2
      cases rm with
      | true =>
        have HE2 : Hid (cut s.data.toList 0 = apps ts (cutB (inl c) (s.data.toList.drop (q + 1)) (q + 1))) := by
          have := HE.out
          rw [cutB, if_pos rfl, h6] at this
          exact this
        clear h6 h5 h4 h3 h2 hcut HE
        cases hi : inl c with
        | true =>
          have hb : ((c.toNat : Int) == 10) = false := by simp [inl] at hi; simp; omega
          rw [hi] at HE2
          go_wp2
          go_roundw
          case rel => exact ⟨v, true, q + 1, ts, rfl, by first | rfl | (simp; intro e; rw [e] at hi; exact absurd hi (by decide)) | (simp; exact UInt8.toNat_inj.1 (by simp [inl] at hi; omega)) | (simp; simp [inl] at hi; omega), by go_num, by omega, by omega, HE2, HV, HB⟩
          case measure => simp [intOf]; omega
        | false =>
          have hb : ((c.toNat : Int) == 10) = true := by simp [inl] at hi; simp; omega
          rw [hi] at HE2
          go_wp2
          go_roundw
          case rel => exact ⟨v, false, q + 1, ts, rfl, by first | rfl | (simp; intro e; rw [e] at hi; exact absurd hi (by decide)) | (simp; exact UInt8.toNat_inj.1 (by simp [inl] at hi; omega)) | (simp; simp [inl] at hi; omega), by go_num, by omega, by omega, HE2, HV, HB⟩
          case measure => simp [intOf]; omega
      | false =>
        have HE1 : cut s.data.toList 0 = apps ts (cut (s.data.toList.drop q) q) := HE.out
        cases hbl : blank c with
        | true =>
          have HE2 := HE1
          rw [h4 hbl] at HE2
          have HE3 : Hid (cut s.data.toList 0 = apps ts (cutB false (s.data.toList.drop (q + 1)) (q + 1))) := HE2
          clear h6 h5 h4 h3 h2 hcut HE HE1 HE2
          go_wp2_with (go_at_call 32; refine (blankD_any c _).mono ?_; rintro e w' ⟨rfl, rfl⟩; rw [hbl])
          go_roundw
          case rel => exact ⟨v, false, q + 1, ts, rfl, rfl, by go_num, by omega, by omega, HE3, HV, HB⟩
          case measure => simp [intOf]; omega
        | false =>
          cases hsh : sharp c with
          | true =>
            have hb : ((c.toNat : Int) == 35) = true := by simp [sharp] at hsh; simp; omega
            have HE2 := HE1
            rw [h5 hsh] at HE2
            have HE3 : Hid (cut s.data.toList 0 = apps ts (cutB true (s.data.toList.drop (q + 1)) (q + 1))) := HE2
            clear h6 h5 h4 h3 h2 hcut HE HE1 HE2
            go_wp2_with (go_at_call 32; refine (blankD_any c _).mono ?_; rintro e w' ⟨rfl, rfl⟩; rw [hbl])
            go_roundw
            case rel => exact ⟨v, true, q + 1, ts, rfl, rfl, by go_num, by omega, by omega, HE3, HV, HB⟩
            case measure => simp [intOf]; omega
          | false =>
            have hb : ((c.toNat : Int) == 35) = false := by simp [sharp] at hsh; simp; omega
            have HCt := hide_ hcut
            clear h6 h5 h4 hcut HE
            have h3 := h3 hbl hsh
            have h2 := h2 hbl hsh
            by_cases he : erW (wAt s q) = 0
            · obtain ⟨n, n1, n2, n3, n4, n5⟩ := h2 he
              rw [he, n4] at HCt
              rw [n5, apps_app] at HE1
              have HE3 : Hid (cut s.data.toList 0 = apps (ts ++ [tkW (wAt s q) q]) (cutB false (s.data.toList.drop (q + n)) (q + n))) := HE1
              clear h3 h2 he n4 n5 HE1
              obtain ⟨T, hT⟩ : ∃ T, tkW (wAt s q) q = T := ⟨_, rfl⟩
              rw [hT] at HCt HE3 n3
              clear hT
              go_wp2_with (go_at_call 32; refine (blankD_any c _).mono ?_; rintro e w' ⟨rfl, rfl⟩; rw [hbl])
              refine HCt.out.mono ?_; rintro e w2 ⟨rfl, hB2⟩
              clear HCt
              have HV2 := hide_ (ownS_upd HV.out (Upd.of_below (S := fun _ => False) hB2) (fun _ _ h => h))
              have HB2 := hide_ (HB.out.trans (hB2.mono HB.out.size))
              clear HV HB hB2
              obtain ⟨wA, hwA⟩ : ∃ wA, wA = w2.alloc (.cells #[.int .i64 T.k, .string T.t, .int .i64 T.n, .int .i64 T.a, .int .i64 T.e] 34) := ⟨_, rfl⟩
              have KA : Blk wA w2.heap.size 34 [.int .i64 T.k, .string T.t, .int .i64 T.n, .int .i64 T.a, .int .i64 T.e] := by rw [hwA]; exact Blk.newA w2 _ 34
              have HBA0 : Below w2.heap.size w2 wA := by rw [hwA]; exact (Below.refl _ _).alloc (Nat.le_refl _) _
              have HVA := hide_ (ownS_upd HV2.out (Upd.of_below (S := fun _ => False) HBA0) (fun _ _ h => h))
              have HBA := hide_ (HB2.out.trans (HBA0.mono HB2.out.size))
              obtain ⟨v9, w9, r9, o9, u9⟩ := push_tok HVA.out T (by omega) HBA.out.size
              have R9 := hide_ r9
              have HV9 := hide_ o9
              have HB9 := hide_ (HBA.out.trans (u9.below _ HBA.out.size fun k hk => (HVA.out.lt k hk).1))
              have K9 := KA.upd u9 (fun e => by have h2 := (HV2.out.lt _ e).2; omega)
              have d4 : w9.cell? ⟨w2.heap.size, 4, none⟩ = some (.int .i64 (q + n : Int)) := by have := K9.cell 4; rw [this, n3]; simp
              have a0 : wA.cell? ⟨w2.heap.size, 0, none⟩ = some (.int .i64 T.k) := KA.cell 0
              have a1 : wA.cell? ⟨w2.heap.size, 1, none⟩ = some (.string T.t) := KA.cell 1
              have a2 : wA.cell? ⟨w2.heap.size, 2, none⟩ = some (.int .i64 T.n) := KA.cell 2
              have a3 : wA.cell? ⟨w2.heap.size, 3, none⟩ = some (.int .i64 T.a) := KA.cell 3
              have a4 : wA.cell? ⟨w2.heap.size, 4, none⟩ = some (.int .i64 T.e) := KA.cell 4
              clear HVA HBA HBA0 HV2 HB2 r9 o9 u9 K9 KA n3
              unfold tkv
              go_upto_region 15 with fail
              rw [← hwA]
              clear hwA
              go_wp2_with (at_builtin; have _t := R9; refine wpList_append_run rfl (.tmp 40) (.tmp 42) 23 23 rfl rfl rfl R9.out ?_; clear R9)
              go_roundw
              case rel => exact ⟨v9, false, q + n, ts ++ [T], rfl, rfl, by go_num, by omega, by simp; omega, HE3, HV9, HB9⟩
              case measure => simp [intOf]; omega
            · rw [h3 he] at HE1
              have hap : apps ts ([], erW (wAt s q), q) = ([], erW (wAt s q), q) := by unfold apps; rw [if_neg he]
              rw [hap] at HE1
              have HE3 := hide_ (HC.out.trans HE1)
              have he' : ((erW (wAt s q) : Int) == 0) = false := by simp; exact he
              clear h3 h2 HE1 hap
              obtain ⟨E, hE⟩ : ∃ E, erW (wAt s q) = E := ⟨_, rfl⟩
              obtain ⟨T, hT⟩ : ∃ T, tkO (wAt s q) q = T := ⟨_, rfl⟩
              rw [hE] at HCt HE3 he' he
              rw [hT] at HCt
              clear hT hE
              go_wp2_with (go_at_call 32; refine (blankD_any c _).mono ?_; rintro e w' ⟨rfl, rfl⟩; rw [hbl])
              refine HCt.out.mono ?_; rintro e w2 ⟨rfl, hB2⟩
              have HB2 := hide_ ((HB.out.trans (hB2.mono HB.out.size)).alloc (by have h1 := HB.out.size; have h2 := hB2.size; omega) (.cells #[.int .i64 T.k, .string T.t, .int .i64 T.n, .int .i64 T.a, .int .i64 T.e] 34))
              clear HCt HV HB hB2
              unfold tkv
              go_wp2
              go_ret3
              exact ⟨_, by rw [HE3.out]; rfl, by rw [HE3.out]; exact World.ownsRow_nil _ _ _ _, HB2⟩
    · obtain rfl : q = s.size := by omega
      have HE2 := HE.out
      rw [List.drop_of_length_le (by rw [← Lib.size_eq]; exact Nat.le_refl _), show cutB rm [] s.size = ([], 0, 0) by cases rm <;> rfl] at HE2
      have hap : apps ts ([], 0, 0) = (ts, 0, 0) := by simp [apps]
      rw [hap] at HE2
      have HE3 := hide_ (HC.out.trans HE2)
      clear HE HE2 hap
      go_wp2
      go_ret3
      exact ⟨v, by rw [HE3.out]; rfl, by rw [HE3.out]; exact HV, HB⟩
end Go.Proofs.Ytoodafhljgdghaa
