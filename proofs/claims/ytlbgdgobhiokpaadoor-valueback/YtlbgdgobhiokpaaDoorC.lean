/- Check, behind, checkPlace, Next, Kid. -/
import Derived.Test.YtlbgdgobhiokpaaDoorB
namespace Go.Proofs.YtlbgdgobhiokpaaDoor
open Go.RowKit
set_option linter.unusedVariables false

def fltv (p : Int × Int) : Value := .agg #[.int .i64 p.1, .int .i64 p.2]
theorem ret17 {R : Ending → World → Prop} {tmps : Array Value} {g : Nat} {x y : Value} {w : World} (hp : tmps.getD 2 undef = .pointer (some ⟨g, 0, none⟩)) (hK : Blk w g 29 [x, y]) (hR : R (.returned (.agg #[x, y])) w) :
    bodyPost Tryd.prog Tryd.f17 R Exit.ret ⟨tmps, []⟩ w :=
  bodyPost_ret (results_cell_row rfl _ _ _ _ #[x, y] _ _ hp hK Tryd.underlying29 rfl (by show _ = some 2; kernel_rfl)) rfl hR
set_option maxRecDepth 100000 in
set_option maxHeartbeats 4000000 in
theorem check_any (a : Option Addr) (len cap : Nat) (l : List Nd) (w : World) (hl : l.length = len) (hs : len ≤ 1000000) (hr : Hid (NRow w a l)) :
    Calls Tryd.prog 17 #[.slice a len cap] w fun e w' => e = .returned (fltv (chk 1 0 l)) ∧ Below w.heap.size w w' := by
  go_enter Tryd.func17, Tryd.ntmps17
  go_wp2_with fail
  go_loopw [3, 8] (fun m i wr => ∃ (M : Int) (k : Nat), k ≤ len ∧ i = .int .i64 k ∧ m = .int .i64 M ∧ 0 ≤ M ∧ M ≤ 1 + 1048576 * (k : Int) ∧ Hid (chk M k (l.drop k) = chk 1 0 l) ∧ Hid (Blk wr w.heap.size 29 [.int .i64 0, .int .i64 0]) ∧ Hid (Below w.heap.size w wr)) (fun _ i _ => len - (intOf i).toNat)
  case atStart => exact ⟨1, 0, Nat.zero_le _, rfl, rfl, by omega, by omega, rfl, Blk.newA w _ 29, (Below.refl _ _).alloc (Nat.le_refl _) _⟩
  case round =>
    obtain ⟨M, k, hk, rfl, rfl, hM0, hM1, HC, HK, HB⟩ := hrel
    by_cases hlt : k < len
    · obtain ⟨b, off, rfl, hb, hc⟩ := hr.out.open (by omega)
      obtain ⟨c0, c1, c2⟩ := hc k (by omega)
      have hlt' : (k : Int) < len := by omega
      have d0 := (HB.out.cell (p := ⟨b, off + k * 3, none⟩) hb).trans c0
      have d1 := (HB.out.cell (p := ⟨b, off + k * 3 + 1, none⟩) hb).trans c1
      have d2 := (HB.out.cell (p := ⟨b, off + k * 3 + 2, none⟩) hb).trans c2
      have hdrop : l.drop k = l.getD k nil0 :: l.drop (k + 1) := by
        rw [List.drop_eq_getElem_cons (by omega)]; simp [List.getD, List.getElem?_eq_getElem (show k < l.length by omega)]
      have HC1 : Hid (chk M k (l.getD k nil0 :: l.drop (k + 1)) = chk 1 0 l) := hdrop ▸ HC.out
      clear hdrop hc c0 c1 c2 HC
      generalize l.getD k nil0 = x at *
      obtain ⟨xk, xn, xc⟩ := x
      by_cases hM : M = 0
      · subst hM
        have e0 : ∀ o, (wr.alloc o).cell? ⟨w.heap.size, 0, none⟩ = some (.int .i64 0) := fun o => (HK.out.alloc o).cell 0
        have e1 : ∀ o, (wr.alloc o).cell? ⟨w.heap.size, 1, none⟩ = some (.int .i64 0) := fun o => (HK.out.alloc o).cell 1
        have z0 : ∀ o, (wr.alloc o).frozen? ⟨w.heap.size, 0, none⟩ = false := fun o => (HK.out.alloc o).frozen 0
        have z1 : ∀ o, (wr.alloc o).frozen? ⟨w.heap.size, 1, none⟩ = false := fun o => (HK.out.alloc o).frozen 1
        go_wp2
        exact ret17 rfl (((HK.out.alloc _).set 0 _).set 1 _) ⟨by have := HC1.out; rw [chk, if_pos (.inl rfl)] at this; rw [← this]; rfl, ((HB.out.alloc (by have := HB.out.size; omega) _).setCell (Nat.le_refl _) _).setCell (Nat.le_refl _) _⟩
      · have e2 : ∀ o, (wr.alloc o).cell? ⟨w.heap.size, 0, none⟩ = some (.int .i64 0) := fun o => (HK.out.alloc o).cell 0
        go_wp2_with fail
        refine (right_any (xk, xn, xc) _).mono ?_; rintro e w1 ⟨rfl, hB1⟩
        have HK1 := (HK.out.alloc (.cells #[.int .i64 xk, .int .u64 xn, .int .i64 xc] 37)).later hB1
        have e0 := HK1.cell 0; have e1 := HK1.cell 1; have z0 := HK1.frozen 0; have z1 := HK1.frozen 1
        simp at e0 e1
        have HX := (Blk.newA wr #[.int .i64 xk, .int .u64 xn, .int .i64 xc] 37).later hB1
        have f2 := HX.cell 2
        simp at f2
        have HB1 : Hid (Below w.heap.size w w1) := (HB.out.alloc (by have := HB.out.size; omega) _).trans (hB1.mono (by have := HB.out.size; simp; omega))
        clear hB1 HX d0 d1 d2
        by_cases hx : right (xk, xn, xc) = true
        · have HC2 : Hid (chk (M + (xc - 1)) (k + 1) (l.drop (k + 1)) = chk 1 0 l) := by
            have := HC1.out
            rw [chk, if_neg (by simp [hM, hx])] at this
            exact this
          have hxc := right_kids hx
          simp only at hxc
          have HK2 : Hid (Blk w1 w.heap.size 29 [.int .i64 0, .int .i64 0]) := HK1
          clear e0 e1 z0 z1 HC1 HK1 HK HB hr
          rw [hx]
          go_wp2
          go_roundw
          case rel => exact ⟨M + (xc - 1), k + 1, by omega, by go_num, by go_num, by omega, by omega, by simpa using HC2, HK2, HB1⟩
          case measure => simp [intOf]; omega
        · have hx' : right (xk, xn, xc) = false := by simpa using hx
          rw [hx']
          go_wp2
          exact ret17 rfl ((HK1.set 0 _).set 1 _) ⟨by have := HC1.out; rw [chk, if_pos (.inr hx')] at this; rw [← this]; rfl, (HB1.out.setCell (Nat.le_refl _) _).setCell (Nat.le_refl _) _⟩
    · obtain rfl : k = len := by omega
      have e0 := HK.out.cell 0; have e1 := HK.out.cell 1; have z0 := HK.out.frozen 0; have z1 := HK.out.frozen 1
      simp at e0 e1
      have HC1 := HC.out
      rw [List.drop_eq_nil_of_le (by omega), chk] at HC1
      by_cases hM : 0 < M
      · rw [if_pos hM] at HC1
        have HC2 : Hid _ := HC1
        clear HC1
        go_wp2
        exact ret17 rfl ((HK.out.set 0 _).set 1 _) ⟨by rw [← HC2.out]; rfl, (HB.out.setCell (Nat.le_refl _) _).setCell (Nat.le_refl _) _⟩
      · rw [if_neg hM] at HC1
        have HC2 : Hid _ := HC1
        clear HC1
        go_wp2
        exact ret17 rfl ((HK.out.set 0 _).set 1 _) ⟨by rw [← HC2.out]; rfl, (HB.out.setCell (Nat.le_refl _) _).setCell (Nat.le_refl _) _⟩

/-! ### Plain: so many values -/
theorem bh_zero (l : List Nd) : bh 0 l = 0 := by cases l <;> rfl
theorem bh_le : ∀ (l : List Nd) (m : Nat), bh m l ≤ l.length
  | [], 0 => Nat.le_refl _
  | [], _ + 1 => Nat.le_refl _
  | _ :: _, 0 => Nat.zero_le _
  | x :: l, m + 1 => by have := bh_le l (m + x.2.2.toNat); simp only [bh, List.length_cons]; omega
/-- All kids' numbers are 0 or more, and there are nodes enough for so many values. -/
def Enough : Nat → List Nd → Prop
  | 0, _ => True
  | _ + 1, [] => False
  | m + 1, x :: l => 0 ≤ x.2.2 ∧ x.2.2 ≤ 1048576 ∧ Enough (m + x.2.2.toNat) l
theorem Enough.mono : ∀ {l : List Nd} {m n : Nat}, Enough m l → n ≤ m → Enough n l
  | l, _, 0, _, _ => by cases l <;> exact trivial
  | [], m + 1, n + 1, h, _ => h.elim
  | x :: l, m + 1, n + 1, h, hn => ⟨h.1, h.2.1, h.2.2.mono (by omega)⟩
  | _, 0, n + 1, _, hn => by omega
/-- First some, then the others. -/
theorem bh_add : ∀ (l : List Nd) (m n : Nat), bh (m + n) l = bh m l + bh n (l.drop (bh m l))
  | l, 0, n => by simp [bh_zero]
  | [], m + 1, n => by rw [show m + 1 + n = (m + n) + 1 by omega]; simp [bh]; cases n <;> rfl
  | x :: l, m + 1, n => by
    rw [show m + 1 + n = (m + n) + 1 by omega]
    simp only [bh, List.drop_succ_cons]
    rw [show m + n + x.2.2.toNat = (m + x.2.2.toNat) + n by omega, bh_add l _ n]
    omega
theorem Enough.drop : ∀ {l : List Nd} {m n : Nat}, Enough (m + n) l → Enough n (l.drop (bh m l))
  | l, 0, n, h => by simpa [bh_zero] using h
  | [], m + 1, n, h => by rw [show m + 1 + n = (m + n) + 1 by omega] at h; exact h.elim
  | x :: l, m + 1, n, h => by
    rw [show m + 1 + n = (m + n) + 1 by omega] at h
    simp only [bh, List.drop_succ_cons]
    have := h.2.2
    rw [show m + n + x.2.2.toNat = (m + x.2.2.toNat) + n by omega] at this
    exact this.drop
theorem chk_err : ∀ (l : List Nd) (m a : Int), (chk m a l).1 = 0 ∨ (chk m a l).1 = 40
  | [], m, a => by unfold chk; split <;> simp
  | x :: l, m, a => by
    unfold chk
    split
    · simp
    · exact chk_err l _ _
/-- A list that Check takes: from each place on there are just the nodes that are wanted. -/
theorem chk_enough : ∀ (l : List Nd) (m : Nat) (a : Int), (chk m a l).1 = 0 → Enough m l ∧ bh m l = l.length ∧ ∀ x ∈ l, right x = true
  | [], m, a, h => by
    unfold chk at h
    split at h
    · simp at h
    · obtain rfl : m = 0 := by omega
      exact ⟨trivial, rfl, by simp⟩
  | x :: l, m, a, h => by
    unfold chk at h
    split at h
    · simp at h
    · rename_i hn
      rw [not_or] at hn
      have hx : right x = true := by simpa using hn.2
      have hc := right_kids hx
      obtain ⟨k, rfl⟩ : ∃ k, m = k + 1 := ⟨m - 1, by omega⟩
      have hm : ((k + 1 : Nat) : Int) + (x.2.2 - 1) = ((k + x.2.2.toNat : Nat) : Int) := by omega
      rw [hm] at h
      obtain ⟨h1, h2, h3⟩ := chk_enough l _ _ h
      exact ⟨⟨hc.1, hc.2, h1⟩, by simp [bh, h2], by simpa [hx] using h3⟩
/-- .. and so from each of its places on. -/
theorem chk_at : ∀ (l : List Nd) (m : Nat) (a : Int) (i : Nat), (chk m a l).1 = 0 → i < l.length → Enough 1 (l.drop i)
  | [], _, _, i, _, hi => by simp at hi
  | x :: l, m, a, 0, h, _ => by
    have h1 := (chk_enough _ _ _ h)
    cases m with
    | zero => simp [bh] at h1
    | succ m => exact h1.1.mono (by omega)
  | x :: l, m, a, i + 1, h, hi => by
    unfold chk at h
    split at h
    · simp at h
    · rename_i hn
      rw [not_or] at hn
      have hc := right_kids (x := x) (by simpa using hn.2)
      obtain ⟨k, rfl⟩ : ∃ k, m = k + 1 := ⟨m - 1, by omega⟩
      rw [show ((k + 1 : Nat) : Int) + (x.2.2 - 1) = ((k + x.2.2.toNat : Nat) : Int) by omega] at h
      simpa using chk_at l _ _ i h (by simpa using hi)
end Go.Proofs.YtlbgdgobhiokpaaDoor
