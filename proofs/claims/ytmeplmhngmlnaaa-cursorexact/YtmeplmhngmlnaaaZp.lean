/- begun. -/
import Derived.Test.YtmeplmhngmlnaaaZn
namespace Go.Proofs.Ytmeplmhngmlnaaa
open Go.RowKit
set_option linter.unusedVariables false

set_option maxHeartbeats 4000000 in
set_option maxRecDepth 100000 in
theorem begun_any (w : World) :
    Calls Try.prog 23 #[] w fun e w' => ∃ bt, e = .returned (.tuple #[.pointer (some ⟨bt, 0, none⟩), .bool true]) ∧ Hid (Plays w.heap.size w w' bt 0) := by
  have HB := Beg.start w
  obtain ⟨bt, hbt⟩ : ∃ bt, bt = w.heap.size := ⟨_, rfl⟩
  go_enter Try.func23, Try.ntmps23
  go_wp2_with fail
  obtain ⟨w1, hw1⟩ : ∃ w1, w1 = w.alloc (.cells #[.pointer none, .pointer none, .pointer none, .pointer none, .pointer none, .pointer none, .pointer none, .pointer none, .slice none 0 0, .slice none 0 0] 64) := ⟨_, rfl⟩
  rw [← hw1] at HB ⊢
  have HB1 : Hid (∃ a c e g pre, Beg w.heap.size w w1 w.heap.size 0 a c e g pre) := ⟨_, _, _, _, _, HB⟩
  clear hw1 HB
  go_loopw [3] (fun i wr => ∃ k : Nat, k ≤ 2 ∧ i = .int .i64 k ∧ Hid (∃ a c e g pre, Beg w.heap.size w wr w.heap.size k a c e g pre)) (fun i _ => 2 - (intOf i).toNat)
  case atStart => exact ⟨0, by omega, rfl, HB1⟩
  case round =>
    clear HB1
    obtain ⟨k, hk, rfl, HS⟩ := hrel
    obtain ⟨a, c, e, g, pre, hS⟩ := HS.out
    have H : Hid (Beg w.heap.size w wr w.heap.size k a c e g pre) := hS
    clear HS hS
    by_cases hk2 : k < 2
    · have hk' : (k : Int) < 2 := by omega
      go_wp2_with fail
      --1
      refine (new_raw w.heap.size pre nl nl k _ H.out.tab hk2).mono ?_; rintro _ w2 ⟨b1, b2, rfl, hb1, h12, I1, R1, T1, u1⟩
      have U1 : Hid _ := u1
      clear u1
      go_wp2_with fail
      --2
      refine (to_raw w.heap.size _ nl nl k (100 + k) _ T1 hk2 (by omega)).mono ?_; rintro _ w3 ⟨b3, b4, rfl, hb3, h34, O2, S2, T2, u2⟩
      have H2 : Hid _ := H.out.step hk2 hb1 h12 I1.out R1.out U1.out hb3 h34 O2.out S2.out T2.out u2
      have c1 := H2.out.tab.cell k (by omega)
      have c2 := H2.out.tab.cell (4 + k) (by omega)
      rw [(H2.out.at_ k (by omega)).1] at c1
      rw [(H2.out.at_ k (by omega)).2.2.1] at c2
      unfold ptr at c1 c2
      clear u2 T2 S2 O2 T1 R1 I1 U1 H hb1 hb3 h12 h34
      --3
      go_wp2
      go_roundw
      case rel => exact ⟨k + 1, by omega, by go_num, ⟨_, _, _, _, _, H2.out⟩⟩
      case measure => simp [intOf]; omega
    · obtain rfl : k = 2 := by omega
      go_wp2
      go_ret2
      exact ⟨_, rfl, H.out.plays rfl⟩
end Go.Proofs.Ytmeplmhngmlnaaa
