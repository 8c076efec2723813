/- gap, bare; TokensPlaces. -/
import Derived.Test.YtoodafhljgdghaaQ
namespace Go.Proofs.Ytoodafhljgdghaa
open Go.RowKit
set_option linter.unusedVariables false

set_option maxRecDepth 100000 in
set_option maxHeartbeats 4000000 in
theorem gap_any (s : ByteArray) (last : Bool) (w : World) (hs : s.size ≤ 1000000) : Calls Try.prog 12 #[.string s, .bool last] w fun e w' => e = .returned (.bool (gp false s.data.toList last)) ∧ w = w' := by
  go_enter Try.func12, Try.ntmps12
  go_wp2_with fail
  go_loopw [5, 6] (fun x5 x6 wr => ∃ (rm : Bool) (k : Nat), x5 = .bool rm ∧ x6 = .int .i64 k ∧ k ≤ s.size ∧ Hid (gp rm (s.data.toList.drop k) last = gp false s.data.toList last) ∧ w = wr) (fun _ i _ => s.size - (intOf i).toNat)
  case atStart => exact ⟨false, 0, rfl, rfl, Nat.zero_le _, rfl, rfl⟩
  case round =>
    obtain ⟨rm, k, rfl, rfl, hk, HG, rfl⟩ := hrel
    by_cases hlt : k < s.size
    · have hlt' : (k : Int) < s.size := by omega
      have HG2 := HG.out
      rw [drop_at s k hlt] at HG2
      obtain ⟨c, hc⟩ : ∃ c, s[k]'hlt = c := ⟨_, rfl⟩
      rw [hc] at HG2
      clear HG
      cases rm with
      | true =>
        have HG3 : Hid (gp (inl c) (s.data.toList.drop (k + 1)) last = gp false s.data.toList last) := HG2
        clear HG2
        cases hi : inl c with
        | true =>
          have hb : ((c.toNat : Int) == 10) = false := by simp [inl] at hi; simp; omega
          rw [hi] at HG3
          go_wp2
          go_roundw
          case rel => exact ⟨true, k + 1, by first | rfl | (simp; simp [inl] at hi; omega), by go_num, by omega, HG3, by trivial⟩
          case measure => simp [intOf]; omega
        | false =>
          have hb : ((c.toNat : Int) == 10) = true := by simp [inl] at hi; simp; omega
          rw [hi] at HG3
          go_wp2
          go_roundw
          case rel => exact ⟨false, k + 1, by first | rfl | (simp; simp [inl] at hi; omega), by go_num, by omega, HG3, by trivial⟩
          case measure => simp [intOf]; omega
      | false =>
        cases hsh : sharp c with
        | true =>
          have hb : ((c.toNat : Int) == 35) = true := by simp [sharp] at hsh; simp; omega
          rw [gp_sharp hsh] at HG2
          have HG3 := hide_ HG2
          clear HG2
          go_wp2
          go_roundw
          case rel => exact ⟨true, k + 1, rfl, by go_num, by omega, HG3, by trivial⟩
          case measure => simp [intOf]; omega
        | false =>
          have hb : ((c.toNat : Int) == 35) = false := by simp [sharp] at hsh; simp; omega
          cases hbl : blank c with
          | true =>
            rw [gp_blank hbl] at HG2
            have HG3 := hide_ HG2
            clear HG2
            have h32 : (c.toNat : Int) = 32 ∨ (c.toNat : Int) = 9 ∨ (c.toNat : Int) = 10 := by simp [blank] at hbl; omega
            obtain ⟨x, hx⟩ : ∃ x : Int, (c.toNat : Int) = x := ⟨_, rfl⟩
            rw [hx] at h32 hb
            rcases h32 with rfl | rfl | rfl
            all_goals
              go_wp2
              go_roundw
              case rel => exact ⟨false, k + 1, rfl, by go_num, by omega, HG3, by trivial⟩
              case measure => simp [intOf]; omega
          | false =>
            have h32 : ((c.toNat : Int) == 32) = false ∧ ((c.toNat : Int) == 9) = false ∧ ((c.toNat : Int) == 10) = false := by simp [blank] at hbl; simp; omega
            obtain ⟨i1, i2, i3⟩ := h32
            have j1 : ((c.toNat : Int) != 32) = true ∧ ((c.toNat : Int) != 9) = true ∧ ((c.toNat : Int) != 10) = true := by simp [blank] at hbl; simp; omega
            obtain ⟨j1, j2, j3⟩ := j1
            have HF : Hid (gp false s.data.toList last = false) := by
              show _ = _
              rw [← HG2, gp, hsh, hbl]; rfl
            clear HG2
            go_wp2
            go_ret
            exact ⟨by rw [HF.out]; rfl, rfl⟩
    · obtain rfl : k = s.size := by omega
      have HG2 := HG.out
      rw [List.drop_of_length_le (by rw [← Lib.size_eq]; exact Nat.le_refl _), gp] at HG2
      have HG3 := hide_ HG2
      clear HG HG2
      cases rm <;> cases last
      all_goals
        go_wp2
        go_ret
        exact ⟨by rw [← HG3.out]; rfl, rfl⟩
theorem ret13 {R : Ending → World → Prop} {tmps : Array Value} {g : Nat} {x0 x1 x2 x3 x4 : Value} {w : World} (hp : tmps.getD 2 undef = .pointer (some ⟨g, 0, none⟩)) (hK : Blk w g 34 [x0, x1, x2, x3, x4]) (hR : R (.returned (.agg #[x0, x1, x2, x3, x4])) w) :
    bodyPost Try.prog Try.f13 R Exit.ret ⟨tmps, []⟩ w := by
  refine bodyPost_ret (v := .agg #[x0, x1, x2, x3, x4]) ?_ rfl hR
  have hp' : tmps[2]?.getD undef = .pointer (some ⟨g, 0, none⟩) := by simpa using hp
  have hres : Try.f13.results = #[.cell 2 34] := rfl
  simp only [results, hres]
  simp [hp', asAddr, run_loadVar_row w g 34 34 #[x0, x1, x2, x3, x4] (0, 0) _ hK Try.underlying34 rfl (by show _ = some 5; kernel_rfl)]
set_option maxRecDepth 100000 in
set_option maxHeartbeats 4000000 in
theorem bare_any (k n a e : Int) (t : ByteArray) (w : World) : Calls Try.prog 13 #[.agg #[.int .i64 k, .string t, .int .i64 n, .int .i64 a, .int .i64 e]] w fun r w' => r = .returned (.agg #[.int .i64 k, .string t, .int .i64 n, .int .i64 0, .int .i64 0]) ∧ Below w.heap.size w w' := by
  go_enter Try.func13, Try.ntmps13
  go_wp2
  exact ret13 rfl (blk2 w _ _ 34).2 ⟨rfl, below2 w _ _⟩
end Go.Proofs.Ytoodafhljgdghaa
