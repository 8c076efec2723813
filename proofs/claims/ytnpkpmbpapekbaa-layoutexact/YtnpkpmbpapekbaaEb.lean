/- layout.Offsets, firstWrong, Lengths. -/
import Derived.Test.YtnpkpmbpapekbaaEa
import Derived.Test.YtnpkpmbpapekbaaZb
namespace Go.Proofs.Ytnpkpmbpapekbaa
open Go.RowKit
set_option linter.unusedVariables false

theorem min_if2 (a b : Int) : (if b < a then b else a) = min a b := by split <;> omega
/-- A list of the call's own that is answered. -/
def OwnTo (w : World) (v : Value) (l : List Int) (w' : World) : Prop := IOwn w' w.heap.size v l ∧ Below w.heap.size w w'
set_option maxRecDepth 100000 in
set_option maxHeartbeats 8000000 in
theorem offsets_any (f : Int) (a : Option Addr) (c : Nat) (l : List Int) (w : World) (hn : l.length ≤ 17592186044415) (hr : Hid (Row .i64 w a l)) :
    Calls Try.prog 8 #[.int .i64 f, .slice a l.length c] w fun e w' => ∃ v, e = .returned (.tuple #[v, .int .i64 (offA f l).2]) ∧ Hid (OwnTo w v (offA f l).1 w') := by
  have HNil := hide_ (IOwn.nil w w.heap.size)
  by_cases hf : f < 0
  · have HA : Hid (offA f l = ([], 3)) := hide_ (by unfold offA; rw [if_pos (Or.inl hf)])
    go_enter Try.func8, Try.ntmps8
    go_wp2
    go_ret2
    exact ⟨.slice none 0 0, by rw [HA.out]; rfl, hide_ ⟨by rw [HA.out]; exact HNil.out, Below.refl _ _⟩⟩
  · have hf' : decide (f < 0) = false := by simpa using hf
    have HF : Hid (0 ≤ f) := hide_ (by omega)
    have HC := hide_ (neg_any a c l w hn hr)
    obtain ⟨b, hb⟩ : ∃ b, negL l = b := ⟨_, rfl⟩
    rw [hb] at HC
    have HBn := hide_ hb
    clear hb
    have hmk := makeI l.length hn
    have HMd := hide_ (IOwn.made w l.length hn)
    have hBm := below1 w (.cells (madeCells #[.int .i64 0] l.length) 3)
    obtain ⟨w1, hw1⟩ : ∃ wx, wx = w.alloc (.cells (madeCells #[.int .i64 0] l.length) 3) := ⟨_, rfl⟩
    rw [← hw1] at HMd hBm
    have HBm := hide_ hBm
    clear hBm
    go_enter Try.func8, Try.ntmps8
    go_wp2_with fail
    refine HC.out.mono ?_; rintro e w' ⟨rfl, rfl⟩
    cases b with
    | true =>
      have HA : Hid (offA f l = ([], 3)) := hide_ (by unfold offA; rw [if_pos (Or.inr HBn.out)])
      go_wp2
      go_ret2
      exact ⟨.slice none 0 0, by rw [HA.out]; rfl, hide_ ⟨by rw [HA.out]; exact HNil.out, Below.refl _ _⟩⟩
    | false =>
      have HA : Hid (offA f l = if bigL f l l.length = true then ([], 91) else (offL f l l.length, 0)) := hide_ (by
        unfold offA
        rw [if_neg]
        rw [HBn.out]
        have := HF.out
        simp
        omega)
      go_upto_region 4 with fail
      rw [← hw1]
      clear hw1 hmk HC
      go_wp2_with fail
      go_loopw [6, 7, 22] (fun x6 x7 x22 wr => ∃ (v : Value) (p : Int) (i : Nat), v = x6 ∧ i ≤ l.length ∧ x7 = .int .i64 p ∧ x22 = .int .i64 (i : Int) ∧ Hid (atP f l i = p) ∧ Hid (bigL f l i = false) ∧ Hid (IOwn wr w.heap.size v (offL f l i)) ∧ Hid (Below w.heap.size w wr)) (fun _ _ x22 _ => l.length - (intOf x22).toNat)
      case atStart => exact ⟨_, f, 0, rfl, Nat.zero_le _, rfl, rfl, hide_ rfl, hide_ rfl, HMd, HBm⟩
      case round =>
        obtain ⟨v, p, i, rfl, hi, rfl, rfl, HP, HG, HO, HB⟩ := hrel
        generalize wr = wq at *
        clear HMd HBm HNil
        by_cases hlt : i < l.length
        · have hlt' : (i : Int) < l.length := by omega
          obtain ⟨ba, oa, rfl, -, ca⟩ := (hr.out.later HB.out).open (by omega)
          have x0 := ca i hlt
          have hnn := negL_at HBn.out i
          have hpn := atP_nn HF.out HBn.out i
          rw [HP.out] at hpn
          have hnx : atP f l (i + 1) = p + min (l.getD i 0) 4294967296 := by simp only [atP]; rw [HP.out]
          generalize l.getD i 0 = q at *
          clear ca
          by_cases hbig : 4294967295 < p
          · have HT : Hid (bigL f l l.length = true) := hide_ (bigL_mono (j := i + 1) (by rw [bigL_succ, HP.out]; simp [hbig]) (by omega))
            clear hnx
            go_wp2
            go_ret2
            exact ⟨.slice none 0 0, by rw [HA.out, if_pos HT.out]; rfl, hide_ ⟨by rw [HA.out, if_pos HT.out]; exact IOwn.nil _ _, HB.out⟩⟩
          · have HG2 : Hid (bigL f l (i + 1) = false) := hide_ (by rw [bigL_succ, HP.out, HG.out]; simp; omega)
            obtain ⟨g, cap, w8, hrun, hO8, hU8, -⟩ := HO.out.push p (by rw [offL_len]; omega) HB.out.size
            have hB8 := hU8.below w.heap.size HB.out.size (fun k hk => (HO.out.lies hk).1)
            have HB8 := hide_ (HB.out.trans hB8)
            have HO8 : Hid (IOwn w8 w.heap.size (.slice (some ⟨g, 0, none⟩) ((offL f l i).length + 1) cap) (offL f l (i + 1))) := hide_ (by rw [offL_succ, HP.out]; exact hO8)
            have HRun := hide_ hrun
            have hmn := min_if2 q 4294967296
            have hw := w64 (p + min q 4294967296) (by omega)
            have HNx := hide_ hnx
            obtain ⟨av, cv, hav⟩ := HO.out.slice
            subst hav
            clear hrun hO8 hU8 hB8 hnx
            go_wp2_with (first | (at_builtin; refine wpList_append_run rfl (.tmp 28) (.tmp 30) 22 22 rfl rfl rfl HRun.out ?_; clear HRun) | fail)
            go_roundw
            case rel => exact ⟨_, _, i + 1, rfl, by omega, rfl, by go_num, HNx, HG2, HO8, HB8⟩
            case measure => simp [intOf]; omega
        · obtain rfl : i = l.length := by omega
          go_wp2
          go_ret2
          exact ⟨v, by rw [HA.out, if_neg (by rw [HG.out]; simp)]; rfl, hide_ ⟨by rw [HA.out, if_neg (by rw [HG.out]; simp)]; exact HO.out, HB.out⟩⟩
end Go.Proofs.Ytnpkpmbpapekbaa
