/- The book's holds. -/
import Derived.Test.YtmeplmhngmlnaaaT
import Derived.Test.YtmeplmhngmlnaaaL
namespace Go.Proofs.Ytmeplmhngmlnaaa
open Go.RowKit
set_option linter.unusedVariables false

theorem rep_cell {w : World} {g k n : Nat} {x : Int} {ys : List Value} (h : Blk w g 5 ys) (e : ys.take k = cellsL .u8 (List.replicate k x)) (i : Nat) (hi : i < k) : w.cell? ⟨g, i, none⟩ = some (.int .u8 x) := by
  rw [h.cell i]
  have e2 : (ys.take k)[i]? = ys[i]? := by rw [List.getElem?_take, if_pos hi]
  rw [← e2, e, cellsL_at _ _ _ (by simpa using hi)]
  simp [List.getD, hi]
theorem book_one {B : Nat} {w : World} {vL vM : Value} {N : Nat} {F G : Nat → Value} {s : Nat → Nat} (b : BookSt B w vL vM N F G s) (k : Nat) (hk : k < N) :
    ∃ qL cL qM cM aF cF gM c, vL = .slice (some ⟨qL, 0, none⟩) N cL ∧ vM = .slice (some ⟨qM, 0, none⟩) N cM ∧ w.cell? ⟨qL, k, none⟩ = some (.slice aF (s k) cF) ∧ w.cell? ⟨qM, k, none⟩ = some (.slice (some ⟨gM, 0, none⟩) (s k + 1) c) ∧
      (∀ i, i < s k + 1 → w.cell? ⟨gM, i, none⟩ = some (.int .u8 (mrk k))) ∧ (0 < s k → ∃ gL, aF = some ⟨gL, 0, none⟩ ∧ ∀ i, i < s k → w.cell? ⟨gL, i, none⟩ = some (.int .u8 (mrk k))) ∧ N ≤ cL ∧ N ≤ cM ∧ s k ≤ cF ∧ s k + 1 ≤ c := by
  obtain ⟨qL, cL, rfl, _, h1, _, hL⟩ := b.rL.open (by omega)
  obtain ⟨qM, cM, rfl, _, h2, _, hM⟩ := b.rM.open (by omega)
  obtain ⟨gM, c, ys, e1, hc, hb, hys⟩ := b.m k hk
  have d1 := hL k hk
  have d2 := hM k hk
  rw [e1] at d2
  rcases b.l k hk with ⟨e2, h0⟩ | ⟨g, e2, hg⟩
  · rw [e2] at d1
    rw [h0] at d2 hc hys ⊢
    exact ⟨qL, cL, qM, cM, none, 0, gM, c, rfl, rfl, d1, d2, fun i hi => rep_cell (n := 0) hb hys i hi, fun h => by omega, h1, h2, Nat.le_refl _, hc⟩
  · rw [e2] at d1
    exact ⟨qL, cL, qM, cM, _, _, gM, c, rfl, rfl, d1, d2, fun i hi => rep_cell (n := 0) hb hys i hi, fun _ => ⟨g, rfl, fun i hi => rep_cell (n := 0) hg (by rw [List.take_of_length_le (by simp [cellsL_length])]) i hi⟩, h1, h2, Nat.le_refl _, hc⟩

set_option maxHeartbeats 4000000 in
set_option maxRecDepth 100000 in
theorem bholds_any (B bt : Nat) (pre : List Value) (vL vM : Value) (N : Nat) (F G : Nat → Value) (s : Nat → Nat) (w : World) (hb : Hid (BookSt B w vL vM N F G s)) (ht : Hid (TabAt w bt pre vL vM)) (hN : N ≤ 10000) :
    Calls Try.prog 26 #[.pointer (some ⟨bt, 8, none⟩)] w fun e w' => e = .returned (.bool true) ∧ Below w.heap.size w w' := by
  obtain ⟨aL, cL, hL⟩ : ∃ a c, vL = .slice a N c := by
    rcases hb.out.rL.2 with ⟨rfl, h0⟩ | ⟨g, cap, cur, rfl, _⟩
    · exact ⟨none, 0, by rw [h0]⟩
    · exact ⟨_, _, rfl⟩
  subst hL
  go_enter Try.func26, Try.ntmps26
  go_wp2_with fail
  go_loopw [3] (fun i wr => ∃ k : Nat, k ≤ N ∧ i = .int .i64 k ∧ Hid (BookSt B wr (.slice aL N cL) vM N F G s ∧ TabAt wr bt pre (.slice aL N cL) vM) ∧ Below w.heap.size w wr) (fun i _ => N - (intOf i).toNat)
  case atStart => exact ⟨0, Nat.zero_le _, rfl, ⟨hb.out, ht.out⟩, Below.refl _ _⟩
  case round =>
    clear hb ht
    obtain ⟨k, hk, rfl, HS, hBr⟩ := hrel
    have c8 := HS.out.2.c8
    by_cases hkN : k < N
    · have hkN' : (k : Int) < N := by omega
      go_wp2_with fail
      clear c8
      go_loopw [4] (fun i wx => ∃ j : Nat, j ≤ s k + 1 ∧ i = .int .i64 j ∧ Hid (BookSt B wx (.slice aL N cL) vM N F G s ∧ TabAt wx bt pre (.slice aL N cL) vM) ∧ Below w.heap.size w wx) (fun i _ => s k + 1 - (intOf i).toNat)
      case atStart => exact ⟨0, Nat.zero_le _, rfl, HS, hBr⟩
      case round =>
        clear HS hBr
        obtain ⟨j, hj, rfl, HS, hBr⟩ := hrel
        have hsm := HS.out.1.small k hkN
        have c8 := HS.out.2.c8
        have c9 := HS.out.2.c9
        obtain ⟨qL, cL', qM, cM, aF, cF, gM, c, e1, rfl, dL, dM, dm, dl, n1, n2, n3, n4⟩ := book_one HS.out.1 k hkN
        injection e1 with e1 _ e2
        subst e1 e2
        obtain ⟨sk, hsk⟩ : ∃ sk, s k = sk := ⟨_, rfl⟩
        have Hsk : Hid (s k = sk) := hsk
        rw [hsk] at hj hsm dL dM dm dl n3 n4
        have HS2 : Hid (∀ q, BookSt B (wr.drewN q) (.slice (some ⟨qL, 0, none⟩) N cL) (.slice (some ⟨qM, 0, none⟩) N cM) N F G s ∧ TabAt (wr.drewN q) bt pre (.slice (some ⟨qL, 0, none⟩) N cL) (.slice (some ⟨qM, 0, none⟩) N cM)) := fun q => ⟨HS.out.1.later (below_drewN _ q), HS.out.2.later (below_drewN _ q)⟩
        have hBd : ∀ q, Below w.heap.size w (wr.drewN q) := fun q => hBr.trans ((below_drewN wr q).mono hBr.size)
        clear hsk
        by_cases hjs : j < sk
        · have hjs' : (j : Int) < sk := by omega
          have hjs2 : (j : Int) < (sk : Int) + 1 := by omega
          obtain ⟨gL, rfl, dl2⟩ := dl (by omega)
          have x1 := dm j (by omega)
          have x2 := dl2 j hjs
          clear dm dl dl2 HS
          --1
          go_wp2_with fail
          go_quiet (first | (go_at_call 45; exact Calls.quiet_of_same ((mark_any k _ (by omega)).mono fun _ _ h => ⟨h.1, h.2.symm⟩)))
          go_wp2
          go_roundw
          case rel => exact ⟨j + 1, by rw [Hsk.out]; omega, by go_num, HS2.out _, hBd _⟩
          case measure => rw [Hsk.out]; simp [intOf]; omega
        · by_cases hje : j = sk
          · have hdf : decide ((j : Int) < (sk : Int)) = false := decide_eq_false (by omega)
            have hdf2 : decide (j < sk) = false := decide_eq_false (by omega)
            have hjs2 : (j : Int) < (sk : Int) + 1 := by omega
            have x1 := dm j (by omega)
            have Hje : Hid (j = sk) := hje
            clear dm dl HS hjs hje
            go_wp2_with fail
            go_quiet (first | (go_at_call 45; exact Calls.quiet_of_same ((mark_any k _ (by omega)).mono fun _ _ h => ⟨h.1, h.2.symm⟩)))
            go_wp2
            go_roundw
            case rel => exact ⟨j + 1, by rw [Hsk.out, Hje.out]; omega, by go_num, HS2.out _, hBd _⟩
            case measure => rw [Hsk.out]; have := Hje.out; simp [intOf]; omega
          · obtain rfl : j = sk + 1 := by omega
            have HS3 : Hid _ := HS.out
            have hjs2 : ¬ ((sk + 1 : Nat) : Int) < (sk : Int) + 1 := by omega
            clear dm dl HS HS2 hjs hje
            go_wp2
            go_roundw
            case rel => exact ⟨k + 1, by omega, by go_num, HS3.out, hBr⟩
            case measure => simp [intOf]; omega
    · have hkN' : ¬ (k : Int) < N := by omega
      go_wp2
      go_ret
      exact ⟨rfl, hBr⟩
end Go.Proofs.Ytmeplmhngmlnaaa
