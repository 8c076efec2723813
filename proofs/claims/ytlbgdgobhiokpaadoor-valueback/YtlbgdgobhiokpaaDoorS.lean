/- begin. -/
import Derived.Test.YtlbgdgobhiokpaaDoorR
namespace Go.Proofs.YtlbgdgobhiokpaaDoor
open Go.RowKit
set_option linter.unusedVariables false

def beginM (t : List Int) (c : Int) (st : PS) : PS × Bool :=
  if c = 91 then (⟨st.p + 1, addN st.N st.O 3 0, st.N.length :: st.O, st.en⟩, true)
  else if c = 123 then (⟨st.p + 1, addN st.N st.O 4 0, st.N.length :: st.O, st.en⟩, true)
  else if c = 60 then
    (if 0 < (numL 255 (t.drop (st.p + 1)) true 0).2 then
      (if (takeW t (st.p + 1 + (numL 255 (t.drop (st.p + 1)) true 0).2) [58]).2 = true then
        (⟨(takeW t (st.p + 1 + (numL 255 (t.drop (st.p + 1)) true 0).2) [58]).1, addN st.N st.O 6 (numL 255 (t.drop (st.p + 1)) true 0).1, st.N.length :: st.O, st.en⟩, true)
      else (⟨(takeW t (st.p + 1 + (numL 255 (t.drop (st.p + 1)) true 0).2) [58]).1, st.N, st.O, st.en⟩, false))
    else (⟨st.p + 1, st.N, st.O, st.en⟩, false))
  else if c = 115 then
    (if (takeW t st.p [115, 111, 109, 101, 32]).2 = true then (⟨(takeW t st.p [115, 111, 109, 101, 32]).1, addN st.N st.O 5 0, st.N.length :: st.O, st.en⟩, true)
    else (⟨(takeW t st.p [115, 111, 109, 101, 32]).1, st.N, st.O, st.en⟩, false))
  else leafM t c st
set_option maxRecDepth 100000 in
set_option maxHeartbeats 8000000 in
theorem begin2_any (B b : Nat) (c : Int) (s : ByteArray) (st : PS) (w : World) (hR : Hid (RAt B w b s st)) (hs : s.size ≤ 1048576) (hk : PSok s.size st) (hlt : st.p < s.size) :
    Calls Tryd.prog 64 #[.pointer (some ⟨b, 0, none⟩), .int .u8 c] w fun e w' => e = .returned (.bool (beginM (tx s) c st).2) ∧ Hid (RAt B w' b s (beginM (tx s) c st).1) ∧ Hid (KeptR B w w') := by
  by_cases hleaf : c ≠ 91 ∧ c ≠ 123 ∧ c ≠ 60 ∧ c ≠ 115
  · obtain ⟨h91, h123, h60, h115⟩ := hleaf
    have hb1 : (c == 91) = false := by simpa using h91
    have hb2 : (c == 123) = false := by simpa using h123
    have hb3 : (c == 60) = false := by simpa using h60
    have hb4 : (c == 115) = false := by simpa using h115
    have HE : Hid (beginM (tx s) c st = leafM (tx s) c st) := by show _ = _; rw [beginM, if_neg h91, if_neg h123, if_neg h60, if_neg h115]
    rw [HE.out]
    clear HE h91 h123 h60 h115
    go_enter Tryd.func64, Tryd.ntmps64
    go_wp2_with fail
    refine (leaf_any B b c s st w hR hs hk).mono ?_; rintro e w1 ⟨rfl, H1, HK1⟩
    go_wp2
    go_ret
    exact ⟨rfl, H1, HK1⟩
  obtain ⟨p, N, O, en⟩ := st
  obtain ⟨vn, vo, hr⟩ := hR.out
  have HR : Hid (Rdr B w b s p vn vo N O en) := hr
  clear hr hR
  have hp : p < s.size := hlt
  have hnp : N.length ≤ p := hk.np
  have hol : O.length ≤ N.length := hk.ol
  have hon : ∀ o ∈ O, o < N.length := hk.on
  have hkd : ∀ o, 0 ≤ (N.getD o nil0).2.2 ∧ (N.getD o nil0).2.2 ≤ N.length := hk.kd
  have c1 := HR.out.c1
  have z1 := HR.out.blk.frozen 1
  have HR1 : Hid (Rdr B (w.setCell ⟨b, 1, none⟩ (.int .i64 ((p : Int) + 1))) b s (p + 1) vn vo N O en) := HR.out.setp (p + 1)
  have HK1 : Hid (KeptR B w (w.setCell ⟨b, 1, none⟩ (.int .i64 ((p : Int) + 1)))) := HR.out.keptb 1 _
  go_enter Tryd.func64, Tryd.ntmps64
  by_cases h91 : c = 91
  · subst h91
    go_wp2_with fail
    refine (enter_any B b (p + 1) 3 0 s vn vo N O en _ HR1 hon (by omega) (by omega) (fun o => by have := hkd o; omega)).mono ?_; rintro e w2 ⟨rfl, vn2, vo2, H2, HK2⟩
    go_wp2
    go_ret
    exact ⟨rfl, ⟨vn2, vo2, H2.out⟩, HK1.out.trans HK2.out⟩
  by_cases h123 : c = 123
  · subst h123
    go_wp2_with fail
    refine (enter_any B b (p + 1) 4 0 s vn vo N O en _ HR1 hon (by omega) (by omega) (fun o => by have := hkd o; omega)).mono ?_; rintro e w2 ⟨rfl, vn2, vo2, H2, HK2⟩
    go_wp2
    go_ret
    exact ⟨rfl, ⟨vn2, vo2, H2.out⟩, HK1.out.trans HK2.out⟩
  by_cases h60 : c = 60
  · subst h60
    have HE : Hid (beginM (tx s) 60 ⟨p, N, O, en⟩ = if 0 < (numL 255 ((tx s).drop (p + 1)) true 0).2 then
      (if (takeW (tx s) (p + 1 + (numL 255 ((tx s).drop (p + 1)) true 0).2) [58]).2 = true then
        (⟨(takeW (tx s) (p + 1 + (numL 255 ((tx s).drop (p + 1)) true 0).2) [58]).1, addN N O 6 (numL 255 ((tx s).drop (p + 1)) true 0).1, N.length :: O, en⟩, true)
      else (⟨(takeW (tx s) (p + 1 + (numL 255 ((tx s).drop (p + 1)) true 0).2) [58]).1, N, O, en⟩, false))
    else (⟨p + 1, N, O, en⟩, false)) := rfl
    go_wp2_with fail
    refine (number_any B b (p + 1) 255 s vn vo N O en _ HR1 (by omega) hs (by decide) (by decide)).mono ?_; rintro e w2 ⟨rfl, H2, HK2⟩
    have hq : (numL 255 ((tx s).drop (p + 1)) true 0).2 ≤ s.size - (p + 1) := by have := numL_le 255 ((tx s).drop (p + 1)) true 0; rwa [List.length_drop, tx_len] at this
    generalize numL 255 ((tx s).drop (p + 1)) true 0 = r at *
    obtain ⟨n, j⟩ := r
    simp only at hq HE H2
    by_cases hj : 0 < j
    · have hdj : decide (0 < j) = true := by simpa using hj
      rw [if_pos hj] at HE
      obtain ⟨q, hqe⟩ : ∃ q, p + 1 + j = q := ⟨_, rfl⟩
      simp only [hqe] at HE H2
      have hq2 : q ≤ s.size := by omega
      rw [hdj]
      clear hqe hdj HR HR1
      go_wp2_with fail
      refine (take_any B b q s ⟨#[58]⟩ vn vo N O en w2 H2 hq2 hs (by decide)).mono ?_; rintro e w3 ⟨rfl, H3, HK3⟩
      have htx : tx ⟨#[58]⟩ = [58] := rfl
      rw [htx] at H3 ⊢
      have hq3 := takeW_le (tx s) [58] q (by rw [tx_len]; exact hq2)
      rw [tx_len] at hq3
      generalize takeW (tx s) q [58] = u at *
      obtain ⟨q2, d⟩ := u
      simp only at hq3 HE H3
      cases d with
      | true =>
        rw [if_pos rfl] at HE
        go_wp2_with fail
        refine (enter_any B b q2 6 n s vn vo N O en w3 H3 hon (by omega) (by omega) (fun o => by have := hkd o; omega)).mono ?_; rintro e w4 ⟨rfl, vn4, vo4, H4, HK4⟩
        go_wp2
        go_ret
        rw [HE.out]
        exact ⟨rfl, ⟨vn4, vo4, H4.out⟩, ((HK1.out.trans HK2.out).trans HK3.out).trans HK4.out⟩
      | false =>
        rw [if_neg (by simp)] at HE
        go_wp2
        go_ret
        rw [HE.out]
        exact ⟨rfl, ⟨vn, vo, H3.out⟩, (HK1.out.trans HK2.out).trans HK3.out⟩
    · have hdj : decide (0 < j) = false := by simpa using hj
      rw [if_neg hj] at HE
      obtain rfl : j = 0 := by omega
      rw [hdj]
      go_wp2
      go_ret
      rw [HE.out]
      exact ⟨rfl, ⟨vn, vo, H2.out⟩, HK1.out.trans HK2.out⟩
  · obtain rfl : c = 115 := by
      rcases Classical.em (c = 115) with h | h
      · exact h
      · exact absurd ⟨h91, h123, h60, h⟩ hleaf
    have HE : Hid (beginM (tx s) 115 ⟨p, N, O, en⟩ = if (takeW (tx s) p [115, 111, 109, 101, 32]).2 = true then (⟨(takeW (tx s) p [115, 111, 109, 101, 32]).1, addN N O 5 0, N.length :: O, en⟩, true) else (⟨(takeW (tx s) p [115, 111, 109, 101, 32]).1, N, O, en⟩, false)) := rfl
    clear HR1 HK1 c1 z1
    go_wp2_with fail
    refine (take_any B b p s ⟨#[115, 111, 109, 101, 32]⟩ vn vo N O en w HR (by omega) hs (by decide)).mono ?_; rintro e w3 ⟨rfl, H3, HK3⟩
    have htx : tx ⟨#[115, 111, 109, 101, 32]⟩ = [115, 111, 109, 101, 32] := rfl
    rw [htx] at H3 ⊢
    have hq3 := takeW_le (tx s) [115, 111, 109, 101, 32] p (by rw [tx_len]; omega)
    rw [tx_len] at hq3
    generalize takeW (tx s) p [115, 111, 109, 101, 32] = u at *
    obtain ⟨q2, d⟩ := u
    simp only at hq3 HE H3
    cases d with
    | true =>
      rw [if_pos rfl] at HE
      go_wp2_with fail
      refine (enter_any B b q2 5 0 s vn vo N O en w3 H3 hon (by omega) (by omega) (fun o => by have := hkd o; omega)).mono ?_; rintro e w4 ⟨rfl, vn4, vo4, H4, HK4⟩
      go_wp2
      go_ret
      rw [HE.out]
      exact ⟨rfl, ⟨vn4, vo4, H4.out⟩, HK3.out.trans HK4.out⟩
    | false =>
      rw [if_neg (by simp)] at HE
      go_wp2
      go_ret
      rw [HE.out]
      exact ⟨rfl, ⟨vn, vo, H3.out⟩, HK3.out⟩
end Go.Proofs.YtlbgdgobhiokpaaDoor
