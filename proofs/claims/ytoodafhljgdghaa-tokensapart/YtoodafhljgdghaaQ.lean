/- cuts; TokensCuts. -/
import Derived.Test.YtoodafhljgdghaaM
import Derived.Test.YtoodafhljgdghaaP
namespace Go.Proofs.Ytoodafhljgdghaa
open Go.RowKit
set_option linter.unusedVariables false

theorem cut_few (s : ByteArray) : (cutT s).1.length ≤ 65536 := by
  have key : ∀ (l : List UInt8) (p : Nat), (cut l p).1.length ≤ l.length := by
    intro l p
    refine cut_ind (fun l p => (cut l p).1.length ≤ l.length) ?_ ?_ ?_ ?_ ?_ ?_ l p
    · intro p; simp [cut_nil]
    · intro c r p hb ih; rw [cut_blank r p hb]; simp; omega
    · intro c r p hs h2; rw [cut_end p hs h2]; simp
    · intro c r d s p hs h2 h3 ih; rw [cut_rem p hs h2 h3]; simp; omega
    · intro c r p hb hs he; rw [cut_bad r p hb hs he]; simp
    · intro w s p hw ho ih
      rw [cut_word hw ho p]
      have := hw.pos
      unfold app
      split
      · simp; omega
      · simp; omega
  unfold cutT
  split
  · simp
  · have := key s.data.toList 0
    rw [← Lib.size_eq] at this
    omega
/-- Cut's answer, by its parts. -/
theorem cut_is {s : ByteArray} {ts : List Tk} {E A : Nat} (h : cutT s = (ts, E, A)) (w : World) : Calls Try.prog 10 #[.string s] w fun e w' => ∃ a cap, e = .returned (.tuple #[.slice a ts.length cap, .agg #[.int .i64 E, .int .i64 A]]) ∧ ts.length ≤ cap ∧ Hid (TRow w' a ts) ∧ Hid (w'.ownsRow w.heap.size 34 5 (.slice a ts.length cap) ts.length (cellsT ts)) ∧ Hid (Below w.heap.size w w') := by
  refine (cut_any s w).mono ?_
  rintro e w' ⟨v, rfl, HV, HB⟩
  rw [h] at HV ⊢
  obtain ⟨a, cap, rfl, hc, hr, _⟩ := own_row HV.out
  exact ⟨a, cap, rfl, hc, hr, HV, HB⟩
theorem cutD_is {s : ByteArray} {ts : List Tk} {E A : Nat} (h : cutT s = (ts, E, A)) (w : World) : Calls Try.prog 26 #[.string s] w fun e w' => ∃ a cap, e = .returned (.tuple #[.slice a ts.length cap, .int .i64 E, .int .i64 A]) ∧ Hid (TRow w' a ts) ∧ Hid (Below w.heap.size w w') := by
  refine (cutD_any s w).mono ?_
  rintro e w' ⟨v, rfl, HV, HB⟩
  rw [h] at HV ⊢
  obtain ⟨a, cap, rfl, hc, hr, _⟩ := own_row HV.out
  exact ⟨a, cap, rfl, hr, HB⟩
set_option maxRecDepth 100000 in
set_option maxHeartbeats 8000000 in
theorem cuts_any (s : ByteArray) (w : World) : Calls Try.prog 19 #[.string s] w fun e w' => e = .returned (.bool true) ∧ Below w.heap.size w w' := by
  have hfew := cut_few s
  obtain ⟨⟨ts, E, A⟩, hR⟩ : ∃ R, cutT s = R := ⟨_, rfl⟩
  rw [hR] at hfew
  have hfew : ts.length ≤ 65536 := hfew
  have HR := hide_ hR
  clear hR
  go_enter Try.func19, Try.ntmps19
  go_wp2_with fail
  refine (cut_is HR.out w).mono ?_; rintro e w1 ⟨a1, c1, rfl, hc1, HT1, -, HB1⟩
  have HK1 := hide_ (Blk.newA w1 #[.int .i64 E, .int .i64 A] 26)
  have HBa := hide_ (HB1.out.alloc HB1.out.size (.cells #[.int .i64 E, .int .i64 A] 26))
  have HTa := hide_ (HT1.out.later ((Below.refl _ w1).alloc (Nat.le_refl _) (.cells #[.int .i64 E, .int .i64 A] 26)))
  clear HT1 HB1 hc1
  go_wp2_with fail
  refine (cutD_is HR.out _).mono ?_; rintro e w2 ⟨a2, c2, rfl, HT2, HB2⟩
  have HB := hide_ (HBa.out.trans (HB2.out.mono HBa.out.size))
  have HTb := hide_ (HTa.out.later HB2.out)
  have K := HK1.out.later HB2.out
  have d0 := K.cell 0; have d1 := K.cell 1
  simp at d0 d1
  have HS := hide_ (same_any a1 a2 ts.length c1 c2 ts w2 rfl (by omega) HTb HT2)
  clear K HK1 HBa HTa HB2 HTb HT2
  go_wp2_with fail
  refine HS.out.mono ?_; rintro e w3 ⟨rfl, hB3⟩
  go_wp2
  go_ret
  exact ⟨rfl, HB.out.trans (hB3.mono HB.out.size)⟩
set_option maxRecDepth 100000 in
set_option maxHeartbeats 8000000 in
theorem tcuts_any (s : ByteArray) (a : Option Addr) (n c : Nat) (l : List Int) (w : World) (hl : l.length = n) (hn : n ≤ 9223372036854775807) (hr : Hid (Row .i64 w a l)) : Calls Try.prog 8 #[.string s, .slice a n c] w fun e w' => e = .returned (.bool true) ∧ Below w.heap.size w w' := by
  go_enter Try.func8, Try.ntmps8
  go_wp2_with fail
  refine (first_any w).mono ?_; rintro e w1 ⟨rfl, hB1⟩
  have HB1 := hide_ hB1
  clear hB1
  go_wp2_with fail
  refine (cuts_any s w1).mono ?_; rintro e w2 ⟨rfl, hB2⟩
  have HB2 := hide_ (HB1.out.trans (hB2.mono HB1.out.size))
  clear hB2 HB1
  go_wp2_with fail
  go_loopw [5] (fun i wr => ∃ k : Nat, k ≤ n ∧ k ≤ 50 ∧ i = .int .i64 k ∧ Hid (Below w.heap.size w wr)) (fun i _ => 50 - (intOf i).toNat)
  case atStart => exact ⟨0, Nat.zero_le _, Nat.zero_le _, rfl, HB2⟩
  case round =>
    clear HB2
    obtain ⟨k, hk, hk5, rfl, HB⟩ := hrel
    by_cases hlt : k < n
    · have hlt' : (k : Int) < n := by omega
      by_cases h50 : k < 50
      · have h50' : (k : Int) < 50 := by omega
        obtain ⟨b, o, rfl, hb, hc⟩ := hr.out.open (by omega)
        have d0 := (HB.out.cell (p := ⟨b, o + k, none⟩) hb).trans (hc k (by omega))
        clear hc
        generalize l.getD k 0 = x at *
        by_cases hx : 0 ≤ x
        · by_cases hx2 : x ≤ s.size
          · obtain ⟨y, rfl⟩ := Int.eq_ofNat_of_zero_le hx
            go_wp2_with fail
            refine (cuts_any _ _).mono ?_; rintro e w3 ⟨rfl, hB3⟩
            have HB3 := hide_ (HB.out.trans (hB3.mono HB.out.size))
            clear hB3
            go_wp2
            go_roundw
            case rel => exact ⟨k + 1, by omega, by omega, by go_num, HB3⟩
            case measure => simp [intOf]; omega
          · go_wp2
            go_roundw
            case rel => exact ⟨k + 1, by omega, by omega, by go_num, HB⟩
            case measure => simp [intOf]; omega
        · go_wp2
          go_roundw
          case rel => exact ⟨k + 1, by omega, by omega, by go_num, HB⟩
          case measure => simp [intOf]; omega
      · have h50' : (50 : Int) ≤ k := by omega
        go_wp2
        go_ret
        exact ⟨rfl, HB.out⟩
    · have hge : (n : Int) ≤ k := by omega
      go_wp2
      go_ret
      exact ⟨rfl, HB.out⟩
end Go.Proofs.Ytoodafhljgdghaa
