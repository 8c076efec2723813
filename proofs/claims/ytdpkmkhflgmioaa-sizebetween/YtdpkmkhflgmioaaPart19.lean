import Derived.Test.YtdpkmkhflgmioaaPart14
import Derived.Test.YtdpkmkhflgmioaaPart11
import Derived.Lib.Bits
import Derived.Lib.BitFns

/- size.Length: nodes of values, the small functions. -/
namespace Go.Proofs.Ytdpkmkhflgmioaa
open Go.RowKit
set_option linter.unusedVariables false

/-- The table's byte, and what the sum with it is. -/
theorem tab_sum (x y K : Int) (k : Nat) (hK : K = (k : Int)) (hk : k ≤ 56) (h0 : 0 ≤ y) (h1 : y ≤ 255) (h : y.toNat < Lib.len8tab.size) (hx : x.toNat < 18446744073709551616) (hy : y.toNat = x.toNat / 2 ^ k) (hb : 2 ^ k ≤ x.toNat) :
    wrap64 (K + wrap64 ((Lib.len8tab[y.toNat]'h).toNat : Int)) = (Lib.bitLen x.toNat : Int) := by
  have e1 := Lib.len8_of y h0 h1
  unfold Lib.len8 at e1
  rw [getElem?_pos Lib.len8tab y.toNat h] at e1
  simp only [Option.getD_some] at e1
  have e2 := Lib.bitLen_le8' y h0 h1
  have e3 := Lib.bitLen_shift k x.toNat hb hx
  rw [← hy] at e3
  rw [e1, e3, wrap64, wrap64]
  generalize Lib.bitLen y.toNat = q at *
  clear e3 hb hy h e1
  omega
theorem tab_one (x : Int) (h0 : 0 ≤ x) (h1 : x ≤ 255) (h : x.toNat < Lib.len8tab.size) : wrap64 (wrap64 ((Lib.len8tab[x.toNat]'h).toNat : Int)) = (Lib.bitLen x.toNat : Int) := by
  have e1 := Lib.len8_of x h0 h1
  unfold Lib.len8 at e1
  rw [getElem?_pos Lib.len8tab x.toNat h] at e1
  simp only [Option.getD_some] at e1
  have e2 := Lib.bitLen_le8' x h0 h1
  rw [e1, wrap64, wrap64]
  omega
theorem tab256 : (Lib.len8tab.size : Int) = 256 := by rw [Lib.len8tab_size]; rfl
set_option maxHeartbeats 4000000 in
set_option maxRecDepth 100000 in
theorem len64_any (x : Int) (w : World) (h0 : 0 ≤ x) (h1 : x < 18446744073709551616) :
    Calls Try.prog 78 #[.int .u64 x] w fun e w' => e = .returned (.int .i64 (Lib.bitLen x.toNat)) ∧ w = w' := by
  go_enter Try.func78, Try.ntmps78
  go_wp2
  all_goals first
    | (go_ret; refine ⟨ret_int ?_, rfl⟩)
    | (exfalso; have hs := tab256; omega)
  all_goals first
    | (refine tab_one x h0 ?_ _; omega)
    | (refine tab_sum x _ 8 8 rfl (by decide) ?_ ?_ _ (by omega) ?_ ?_ <;> omega)
    | (refine tab_sum x _ 16 16 rfl (by decide) ?_ ?_ _ (by omega) ?_ ?_ <;> omega)
    | (refine tab_sum x _ 24 24 rfl (by decide) ?_ ?_ _ (by omega) ?_ ?_ <;> omega)
    | (refine tab_sum x _ 32 32 rfl (by decide) ?_ ?_ _ (by omega) ?_ ?_ <;> omega)
    | (refine tab_sum x _ 40 40 rfl (by decide) ?_ ?_ _ (by omega) ?_ ?_ <;> omega)
    | (refine tab_sum x _ 48 48 rfl (by decide) ?_ ?_ _ (by omega) ?_ ?_ <;> omega)
    | (refine tab_sum x _ 56 56 rfl (by decide) ?_ ?_ _ (by omega) ?_ ?_ <;> omega)
theorem bitLen_64 (n : Nat) (h : n < 18446744073709551616) : Lib.bitLen n ≤ 64 := Lib.bitLen_le n 64 (by decide) h
theorem isW_yes (x : Int) (w : World) (h1 : 1 ≤ x) (h2 : x ≤ 8) :
    Calls Try.prog 90 #[.int .i64 x] w fun e w' => e = .returned (.bool true) ∧ w = w' := by
  go_enter Try.func90, Try.ntmps90
  go_wp2
  go_ret
  exact ⟨rfl, rfl⟩

theorem isW_no (x : Int) (w : World) (h : x < 1 ∨ 8 < x) :
    Calls Try.prog 90 #[.int .i64 x] w fun e w' => e = .returned (.bool false) ∧ w = w' := by
  by_cases h1 : 1 ≤ x
  · have h2 : ¬ x ≤ 8 := by omega
    go_enter Try.func90, Try.ntmps90
    go_wp2
    go_ret
    exact ⟨rfl, rfl⟩
  · go_enter Try.func90, Try.ntmps90
    go_wp2
    go_ret
    exact ⟨rfl, rfl⟩

theorem fits_no (n width : Int) (w : World) (h : width < 1 ∨ 8 < width) :
    Calls Try.prog 76 #[.int .u64 n, .int .i64 width] w fun e w' => e = .returned (.bool false) ∧ w = w' := by
  go_enter Try.func76, Try.ntmps76
  go_wp2_with (go_at_call 90; refine (isW_no _ _ h).mono ?_; rintro e w' ⟨rfl, rfl⟩)
  go_ret
  exact ⟨rfl, rfl⟩
def fitB (n width : Int) : Bool := n / 2 ^ (8 * width).toNat == 0
theorem fits_in (n width : Int) (w : World) (h1 : 1 ≤ width) (h2 : width ≤ 8) :
    Calls Try.prog 76 #[.int .u64 n, .int .i64 width] w fun e w' => e = .returned (.bool (fitB n width)) ∧ w = w' := by
  go_enter Try.func76, Try.ntmps76
  go_wp2_with (go_at_call 90; refine (isW_yes _ _ h1 h2).mono ?_; rintro e w' ⟨rfl, rfl⟩)
  go_ret
  exact ⟨rfl, rfl⟩


/-- Does a node fit a type? -/
def fitsP (x : Nv) (t : Ty) : Bool :=
  if t.k = 1 then decide (x.k = 1) && decide (x.kids = 0) && fitB x.n t.n else
  if t.k = 2 then decide (x.k = 2) && decide (x.kids = 0) && decide (x.n ≤ 1) else
  if t.k = 3 then decide (x.k = 1) && decide (x.kids = 0) else
  if t.k = 4 then decide (x.k = 3) && decide (x.n = 0) && decide (x.kids = t.n) else
  if t.k = 5 then decide (x.k = 3) && decide (x.n = 0) && decide (0 ≤ x.kids) && decide (x.kids ≤ t.n) else
  if t.k = 6 then decide (x.k = 5) && decide (x.n = 0) && (decide (x.kids = 0) || decide (x.kids = 1)) else
  if t.k = 7 then decide (x.k = 6) && decide (x.kids = 1) && (armI t.ps x.n).isSome else
  decide (x.k = 4) && decide (x.n = 0) && decide (x.kids = t.ps.length)
set_option maxRecDepth 100000 in
set_option maxHeartbeats 4000000 in
theorem fits1_any (x : Nv) (n el : Int) (ps : List Pt) (va : Option Addr) (vc : Nat) (w : World) (hn1 : 1 ≤ n) (hn2 : n ≤ 8) :
    Calls Try.prog 54 #[.agg #[.int .i64 x.k, .int .u64 x.n, .int .i64 x.kids], .agg #[.int .i64 1, .int .i64 n, .int .i64 el, .slice va ps.length vc]] w fun e w' => e = .returned (.bool (fitsP x ⟨1, n, el, ps⟩)) ∧ Below w.heap.size w w' := by
  obtain ⟨xk, xn, xd⟩ := x
  simp only
  have hB := below2 w (.cells #[.int .i64 xk, .int .u64 xn, .int .i64 xd] 58) (.cells #[.int .i64 1, .int .i64 n, .int .i64 el, .slice va ps.length vc] 62)
  obtain ⟨k1, k2⟩ := blk2 w #[.int .i64 xk, .int .u64 xn, .int .i64 xd] #[.int .i64 1, .int .i64 n, .int .i64 el, .slice va ps.length vc] 58 62
  obtain ⟨w0, hw0⟩ : ∃ wx, wx = (w.alloc (.cells #[.int .i64 xk, .int .u64 xn, .int .i64 xd] 58)).alloc (.cells #[.int .i64 1, .int .i64 n, .int .i64 el, .slice va ps.length vc] 62) := ⟨_, rfl⟩
  rw [← hw0] at hB k1 k2
  have HB := hide_ hB
  have K2 := hide_ k2
  have i0 := k1.cell 0; have i1 := k1.cell 1; have i2 := k1.cell 2
  have j0 := k2.cell 0; have j1 := k2.cell 1; have j2 := k2.cell 2; have j3 := k2.cell 3
  simp at i0 i1 i2 j0 j1 j2 j3
  clear hB k1 k2
  go_enter Try.func54, Try.ntmps54
  go_upto_region 1 with fail
  rw [← hw0]
  clear hw0
  by_cases h0 : xk = 1
  · subst h0
    by_cases h1 : xd = 0
    · subst h1
      have HV : Hid (fitsP ⟨1, xn, 0⟩ ⟨1, n, el, ps⟩ = fitB xn n) := hide_ (by simp [fitsP])
      go_wp2_with (go_at_call 76; refine (fits_in xn n _ hn1 hn2).mono ?_; rintro e w' ⟨rfl, rfl⟩)
      go_ret
      exact ⟨by rw [HV.out]; rfl, HB.out⟩
    · have c1 : (xd == 0) = false := by simpa using h1
      have HV : Hid (fitsP ⟨1, xn, xd⟩ ⟨1, n, el, ps⟩ = false) := hide_ (by simp [fitsP, h1])
      go_wp2
      go_ret
      exact ⟨by rw [HV.out]; rfl, HB.out⟩
  · have c0 : (xk == 1) = false := by simpa using h0
    have HV : Hid (fitsP ⟨xk, xn, xd⟩ ⟨1, n, el, ps⟩ = false) := hide_ (by simp [fitsP, h0])
    go_wp2
    go_ret
    exact ⟨by rw [HV.out]; rfl, HB.out⟩
set_option maxRecDepth 100000 in
set_option maxHeartbeats 4000000 in
theorem fits2_any (x : Nv) (n el : Int) (ps : List Pt) (va : Option Addr) (vc : Nat) (w : World) :
    Calls Try.prog 54 #[.agg #[.int .i64 x.k, .int .u64 x.n, .int .i64 x.kids], .agg #[.int .i64 2, .int .i64 n, .int .i64 el, .slice va ps.length vc]] w fun e w' => e = .returned (.bool (fitsP x ⟨2, n, el, ps⟩)) ∧ Below w.heap.size w w' := by
  obtain ⟨xk, xn, xd⟩ := x
  simp only
  have hB := below2 w (.cells #[.int .i64 xk, .int .u64 xn, .int .i64 xd] 58) (.cells #[.int .i64 2, .int .i64 n, .int .i64 el, .slice va ps.length vc] 62)
  obtain ⟨k1, k2⟩ := blk2 w #[.int .i64 xk, .int .u64 xn, .int .i64 xd] #[.int .i64 2, .int .i64 n, .int .i64 el, .slice va ps.length vc] 58 62
  obtain ⟨w0, hw0⟩ : ∃ wx, wx = (w.alloc (.cells #[.int .i64 xk, .int .u64 xn, .int .i64 xd] 58)).alloc (.cells #[.int .i64 2, .int .i64 n, .int .i64 el, .slice va ps.length vc] 62) := ⟨_, rfl⟩
  rw [← hw0] at hB k1 k2
  have HB := hide_ hB
  have K2 := hide_ k2
  have i0 := k1.cell 0; have i1 := k1.cell 1; have i2 := k1.cell 2
  have j0 := k2.cell 0; have j1 := k2.cell 1; have j2 := k2.cell 2; have j3 := k2.cell 3
  simp at i0 i1 i2 j0 j1 j2 j3
  clear hB k1 k2
  go_enter Try.func54, Try.ntmps54
  go_upto_region 1 with fail
  rw [← hw0]
  clear hw0
  by_cases h0 : xk = 2
  · subst h0
    by_cases h1 : xd = 0
    · subst h1
      by_cases h9 : xn ≤ 1
      · have HV : Hid (fitsP ⟨2, xn, 0⟩ ⟨2, n, el, ps⟩ = true) := hide_ (by simp [fitsP, h9])
        go_wp2
        go_ret
        exact ⟨by rw [HV.out]; rfl, HB.out⟩
      · have HV : Hid (fitsP ⟨2, xn, 0⟩ ⟨2, n, el, ps⟩ = false) := hide_ (by simp [fitsP]; omega)
        go_wp2
        go_ret
        exact ⟨by rw [HV.out]; rfl, HB.out⟩
    · have c1 : (xd == 0) = false := by simpa using h1
      have HV : Hid (fitsP ⟨2, xn, xd⟩ ⟨2, n, el, ps⟩ = false) := hide_ (by simp [fitsP, h1])
      go_wp2
      go_ret
      exact ⟨by rw [HV.out]; rfl, HB.out⟩
  · have c0 : (xk == 2) = false := by simpa using h0
    have HV : Hid (fitsP ⟨xk, xn, xd⟩ ⟨2, n, el, ps⟩ = false) := hide_ (by simp [fitsP, h0])
    go_wp2
    go_ret
    exact ⟨by rw [HV.out]; rfl, HB.out⟩
set_option maxRecDepth 100000 in
set_option maxHeartbeats 4000000 in
theorem fits3_any (x : Nv) (n el : Int) (ps : List Pt) (va : Option Addr) (vc : Nat) (w : World) :
    Calls Try.prog 54 #[.agg #[.int .i64 x.k, .int .u64 x.n, .int .i64 x.kids], .agg #[.int .i64 3, .int .i64 n, .int .i64 el, .slice va ps.length vc]] w fun e w' => e = .returned (.bool (fitsP x ⟨3, n, el, ps⟩)) ∧ Below w.heap.size w w' := by
  obtain ⟨xk, xn, xd⟩ := x
  simp only
  have hB := below2 w (.cells #[.int .i64 xk, .int .u64 xn, .int .i64 xd] 58) (.cells #[.int .i64 3, .int .i64 n, .int .i64 el, .slice va ps.length vc] 62)
  obtain ⟨k1, k2⟩ := blk2 w #[.int .i64 xk, .int .u64 xn, .int .i64 xd] #[.int .i64 3, .int .i64 n, .int .i64 el, .slice va ps.length vc] 58 62
  obtain ⟨w0, hw0⟩ : ∃ wx, wx = (w.alloc (.cells #[.int .i64 xk, .int .u64 xn, .int .i64 xd] 58)).alloc (.cells #[.int .i64 3, .int .i64 n, .int .i64 el, .slice va ps.length vc] 62) := ⟨_, rfl⟩
  rw [← hw0] at hB k1 k2
  have HB := hide_ hB
  have K2 := hide_ k2
  have i0 := k1.cell 0; have i1 := k1.cell 1; have i2 := k1.cell 2
  have j0 := k2.cell 0; have j1 := k2.cell 1; have j2 := k2.cell 2; have j3 := k2.cell 3
  simp at i0 i1 i2 j0 j1 j2 j3
  clear hB k1 k2
  go_enter Try.func54, Try.ntmps54
  go_upto_region 1 with fail
  rw [← hw0]
  clear hw0
  by_cases h0 : xk = 1
  · subst h0
    by_cases h1 : xd = 0
    · subst h1
      have HV : Hid (fitsP ⟨1, xn, 0⟩ ⟨3, n, el, ps⟩ = true) := hide_ (by simp [fitsP])
      go_wp2
      go_ret
      exact ⟨by rw [HV.out]; rfl, HB.out⟩
    · have c1 : (xd == 0) = false := by simpa using h1
      have HV : Hid (fitsP ⟨1, xn, xd⟩ ⟨3, n, el, ps⟩ = false) := hide_ (by simp [fitsP, h1])
      go_wp2
      go_ret
      exact ⟨by rw [HV.out]; rfl, HB.out⟩
  · have c0 : (xk == 1) = false := by simpa using h0
    have HV : Hid (fitsP ⟨xk, xn, xd⟩ ⟨3, n, el, ps⟩ = false) := hide_ (by simp [fitsP, h0])
    go_wp2
    go_ret
    exact ⟨by rw [HV.out]; rfl, HB.out⟩
set_option maxRecDepth 100000 in
set_option maxHeartbeats 4000000 in
theorem fits5_any (x : Nv) (n el : Int) (ps : List Pt) (va : Option Addr) (vc : Nat) (w : World) :
    Calls Try.prog 54 #[.agg #[.int .i64 x.k, .int .u64 x.n, .int .i64 x.kids], .agg #[.int .i64 5, .int .i64 n, .int .i64 el, .slice va ps.length vc]] w fun e w' => e = .returned (.bool (fitsP x ⟨5, n, el, ps⟩)) ∧ Below w.heap.size w w' := by
  obtain ⟨xk, xn, xd⟩ := x
  simp only
  have hB := below2 w (.cells #[.int .i64 xk, .int .u64 xn, .int .i64 xd] 58) (.cells #[.int .i64 5, .int .i64 n, .int .i64 el, .slice va ps.length vc] 62)
  obtain ⟨k1, k2⟩ := blk2 w #[.int .i64 xk, .int .u64 xn, .int .i64 xd] #[.int .i64 5, .int .i64 n, .int .i64 el, .slice va ps.length vc] 58 62
  obtain ⟨w0, hw0⟩ : ∃ wx, wx = (w.alloc (.cells #[.int .i64 xk, .int .u64 xn, .int .i64 xd] 58)).alloc (.cells #[.int .i64 5, .int .i64 n, .int .i64 el, .slice va ps.length vc] 62) := ⟨_, rfl⟩
  rw [← hw0] at hB k1 k2
  have HB := hide_ hB
  have K2 := hide_ k2
  have i0 := k1.cell 0; have i1 := k1.cell 1; have i2 := k1.cell 2
  have j0 := k2.cell 0; have j1 := k2.cell 1; have j2 := k2.cell 2; have j3 := k2.cell 3
  simp at i0 i1 i2 j0 j1 j2 j3
  clear hB k1 k2
  go_enter Try.func54, Try.ntmps54
  go_upto_region 1 with fail
  rw [← hw0]
  clear hw0
  by_cases h0 : xk = 3
  · subst h0
    by_cases h1 : xn = 0
    · subst h1
      by_cases h8 : 0 ≤ xd
      · by_cases h9 : xd ≤ n
        · have HV : Hid (fitsP ⟨3, 0, xd⟩ ⟨5, n, el, ps⟩ = true) := hide_ (by simp [fitsP, h8, h9])
          go_wp2
          go_ret
          exact ⟨by rw [HV.out]; rfl, HB.out⟩
        · have HV : Hid (fitsP ⟨3, 0, xd⟩ ⟨5, n, el, ps⟩ = false) := hide_ (by simp [fitsP]; omega)
          go_wp2
          go_ret
          exact ⟨by rw [HV.out]; rfl, HB.out⟩
      · have HV : Hid (fitsP ⟨3, 0, xd⟩ ⟨5, n, el, ps⟩ = false) := hide_ (by simp [fitsP]; omega)
        go_wp2
        go_ret
        exact ⟨by rw [HV.out]; rfl, HB.out⟩
    · have c1 : (xn == 0) = false := by simpa using h1
      have HV : Hid (fitsP ⟨3, xn, xd⟩ ⟨5, n, el, ps⟩ = false) := hide_ (by simp [fitsP, h1])
      go_wp2
      go_ret
      exact ⟨by rw [HV.out]; rfl, HB.out⟩
  · have c0 : (xk == 3) = false := by simpa using h0
    have HV : Hid (fitsP ⟨xk, xn, xd⟩ ⟨5, n, el, ps⟩ = false) := hide_ (by simp [fitsP, h0])
    go_wp2
    go_ret
    exact ⟨by rw [HV.out]; rfl, HB.out⟩
set_option maxRecDepth 100000 in
set_option maxHeartbeats 4000000 in
theorem fits6_any (x : Nv) (n el : Int) (ps : List Pt) (va : Option Addr) (vc : Nat) (w : World) :
    Calls Try.prog 54 #[.agg #[.int .i64 x.k, .int .u64 x.n, .int .i64 x.kids], .agg #[.int .i64 6, .int .i64 n, .int .i64 el, .slice va ps.length vc]] w fun e w' => e = .returned (.bool (fitsP x ⟨6, n, el, ps⟩)) ∧ Below w.heap.size w w' := by
  obtain ⟨xk, xn, xd⟩ := x
  simp only
  have hB := below2 w (.cells #[.int .i64 xk, .int .u64 xn, .int .i64 xd] 58) (.cells #[.int .i64 6, .int .i64 n, .int .i64 el, .slice va ps.length vc] 62)
  obtain ⟨k1, k2⟩ := blk2 w #[.int .i64 xk, .int .u64 xn, .int .i64 xd] #[.int .i64 6, .int .i64 n, .int .i64 el, .slice va ps.length vc] 58 62
  obtain ⟨w0, hw0⟩ : ∃ wx, wx = (w.alloc (.cells #[.int .i64 xk, .int .u64 xn, .int .i64 xd] 58)).alloc (.cells #[.int .i64 6, .int .i64 n, .int .i64 el, .slice va ps.length vc] 62) := ⟨_, rfl⟩
  rw [← hw0] at hB k1 k2
  have HB := hide_ hB
  have K2 := hide_ k2
  have i0 := k1.cell 0; have i1 := k1.cell 1; have i2 := k1.cell 2
  have j0 := k2.cell 0; have j1 := k2.cell 1; have j2 := k2.cell 2; have j3 := k2.cell 3
  simp at i0 i1 i2 j0 j1 j2 j3
  clear hB k1 k2
  go_enter Try.func54, Try.ntmps54
  go_upto_region 1 with fail
  rw [← hw0]
  clear hw0
  by_cases h0 : xk = 5
  · subst h0
    by_cases h1 : xn = 0
    · subst h1
      by_cases h8 : xd = 0
      · subst h8
        have HV : Hid (fitsP ⟨5, 0, 0⟩ ⟨6, n, el, ps⟩ = true) := hide_ (by simp [fitsP])
        go_wp2
        go_ret
        exact ⟨by rw [HV.out]; rfl, HB.out⟩
      · have c8 : (xd == 0) = false := by simpa using h8
        by_cases h9 : xd = 1
        · subst h9
          have HV : Hid (fitsP ⟨5, 0, 1⟩ ⟨6, n, el, ps⟩ = true) := hide_ (by simp [fitsP])
          go_wp2
          go_ret
          exact ⟨by rw [HV.out]; rfl, HB.out⟩
        · have c9 : (xd == 1) = false := by simpa using h9
          have HV : Hid (fitsP ⟨5, 0, xd⟩ ⟨6, n, el, ps⟩ = false) := hide_ (by simp [fitsP, h8, h9])
          go_wp2
          go_ret
          exact ⟨by rw [HV.out]; rfl, HB.out⟩
    · have c1 : (xn == 0) = false := by simpa using h1
      have HV : Hid (fitsP ⟨5, xn, xd⟩ ⟨6, n, el, ps⟩ = false) := hide_ (by simp [fitsP, h1])
      go_wp2
      go_ret
      exact ⟨by rw [HV.out]; rfl, HB.out⟩
  · have c0 : (xk == 5) = false := by simpa using h0
    have HV : Hid (fitsP ⟨xk, xn, xd⟩ ⟨6, n, el, ps⟩ = false) := hide_ (by simp [fitsP, h0])
    go_wp2
    go_ret
    exact ⟨by rw [HV.out]; rfl, HB.out⟩
end Go.Proofs.Ytdpkmkhflgmioaa

/- size.Length: fits, arms, kids. -/
namespace Go.Proofs.Ytdpkmkhflgmioaa
open Go.RowKit
set_option linter.unusedVariables false

set_option maxRecDepth 100000 in
set_option maxHeartbeats 4000000 in
theorem fits4_any (x : Nv) (n el : Int) (ps : List Pt) (va : Option Addr) (vc : Nat) (w : World) :
    Calls Try.prog 54 #[.agg #[.int .i64 x.k, .int .u64 x.n, .int .i64 x.kids], .agg #[.int .i64 4, .int .i64 n, .int .i64 el, .slice va ps.length vc]] w fun e w' => e = .returned (.bool (fitsP x ⟨4, n, el, ps⟩)) ∧ Below w.heap.size w w' := by
  obtain ⟨xk, xn, xd⟩ := x
  simp only
  have hB := below2 w (.cells #[.int .i64 xk, .int .u64 xn, .int .i64 xd] 58) (.cells #[.int .i64 4, .int .i64 n, .int .i64 el, .slice va ps.length vc] 62)
  obtain ⟨k1, k2⟩ := blk2 w #[.int .i64 xk, .int .u64 xn, .int .i64 xd] #[.int .i64 4, .int .i64 n, .int .i64 el, .slice va ps.length vc] 58 62
  obtain ⟨w0, hw0⟩ : ∃ wx, wx = (w.alloc (.cells #[.int .i64 xk, .int .u64 xn, .int .i64 xd] 58)).alloc (.cells #[.int .i64 4, .int .i64 n, .int .i64 el, .slice va ps.length vc] 62) := ⟨_, rfl⟩
  rw [← hw0] at hB k1 k2
  have HB := hide_ hB
  have K2 := hide_ k2
  have i0 := k1.cell 0; have i1 := k1.cell 1; have i2 := k1.cell 2
  have j0 := k2.cell 0; have j1 := k2.cell 1; have j2 := k2.cell 2; have j3 := k2.cell 3
  simp at i0 i1 i2 j0 j1 j2 j3
  clear hB k1 k2
  go_enter Try.func54, Try.ntmps54
  go_upto_region 1 with fail
  rw [← hw0]
  clear hw0
  by_cases h0 : xk = 3
  · subst h0
    by_cases h1 : xn = 0
    · subst h1
      by_cases h2 : xd = n
      · subst h2
        have HV : Hid (fitsP ⟨3, 0, xd⟩ ⟨4, xd, el, ps⟩ = true) := hide_ (by simp [fitsP])
        go_wp2
        go_ret
        exact ⟨by rw [HV.out]; rfl, HB.out⟩
      · have c2 : (xd == n) = false := by simpa using h2
        have HV : Hid (fitsP ⟨3, 0, xd⟩ ⟨4, n, el, ps⟩ = false) := hide_ (by simp [fitsP, h2])
        go_wp2
        go_ret
        exact ⟨by rw [HV.out]; rfl, HB.out⟩
    · have c1 : (xn == 0) = false := by simpa using h1
      have HV : Hid (fitsP ⟨3, xn, xd⟩ ⟨4, n, el, ps⟩ = false) := hide_ (by simp [fitsP, h1])
      go_wp2
      go_ret
      exact ⟨by rw [HV.out]; rfl, HB.out⟩
  · have c0 : (xk == 3) = false := by simpa using h0
    have HV : Hid (fitsP ⟨xk, xn, xd⟩ ⟨4, n, el, ps⟩ = false) := hide_ (by simp [fitsP, h0])
    go_wp2
    go_ret
    exact ⟨by rw [HV.out]; rfl, HB.out⟩
set_option maxRecDepth 100000 in
set_option maxHeartbeats 4000000 in
theorem fits8_any (x : Nv) (n el : Int) (ps : List Pt) (va : Option Addr) (vc : Nat) (w : World) :
    Calls Try.prog 54 #[.agg #[.int .i64 x.k, .int .u64 x.n, .int .i64 x.kids], .agg #[.int .i64 8, .int .i64 n, .int .i64 el, .slice va ps.length vc]] w fun e w' => e = .returned (.bool (fitsP x ⟨8, n, el, ps⟩)) ∧ Below w.heap.size w w' := by
  obtain ⟨xk, xn, xd⟩ := x
  simp only
  have hB := below2 w (.cells #[.int .i64 xk, .int .u64 xn, .int .i64 xd] 58) (.cells #[.int .i64 8, .int .i64 n, .int .i64 el, .slice va ps.length vc] 62)
  obtain ⟨k1, k2⟩ := blk2 w #[.int .i64 xk, .int .u64 xn, .int .i64 xd] #[.int .i64 8, .int .i64 n, .int .i64 el, .slice va ps.length vc] 58 62
  obtain ⟨w0, hw0⟩ : ∃ wx, wx = (w.alloc (.cells #[.int .i64 xk, .int .u64 xn, .int .i64 xd] 58)).alloc (.cells #[.int .i64 8, .int .i64 n, .int .i64 el, .slice va ps.length vc] 62) := ⟨_, rfl⟩
  rw [← hw0] at hB k1 k2
  have HB := hide_ hB
  have K2 := hide_ k2
  have i0 := k1.cell 0; have i1 := k1.cell 1; have i2 := k1.cell 2
  have j0 := k2.cell 0; have j1 := k2.cell 1; have j2 := k2.cell 2; have j3 := k2.cell 3
  simp at i0 i1 i2 j0 j1 j2 j3
  clear hB k1 k2
  go_enter Try.func54, Try.ntmps54
  go_upto_region 1 with fail
  rw [← hw0]
  clear hw0
  by_cases h0 : xk = 4
  · subst h0
    by_cases h1 : xn = 0
    · subst h1
      by_cases h2 : xd = (ps.length : Int)
      · subst h2
        have HV : Hid (fitsP ⟨4, 0, (ps.length : Int)⟩ ⟨8, n, el, ps⟩ = true) := hide_ (by simp [fitsP])
        go_wp2
        go_ret
        exact ⟨by rw [HV.out]; rfl, HB.out⟩
      · have c2 : (xd == (ps.length : Int)) = false := by simpa using h2
        have HV : Hid (fitsP ⟨4, 0, xd⟩ ⟨8, n, el, ps⟩ = false) := hide_ (by simp [fitsP, h2])
        go_wp2
        go_ret
        exact ⟨by rw [HV.out]; rfl, HB.out⟩
    · have c1 : (xn == 0) = false := by simpa using h1
      have HV : Hid (fitsP ⟨4, xn, xd⟩ ⟨8, n, el, ps⟩ = false) := hide_ (by simp [fitsP, h1])
      go_wp2
      go_ret
      exact ⟨by rw [HV.out]; rfl, HB.out⟩
  · have c0 : (xk == 4) = false := by simpa using h0
    have HV : Hid (fitsP ⟨xk, xn, xd⟩ ⟨8, n, el, ps⟩ = false) := hide_ (by simp [fitsP, h0])
    go_wp2
    go_ret
    exact ⟨by rw [HV.out]; rfl, HB.out⟩

set_option maxRecDepth 100000 in
set_option maxHeartbeats 4000000 in
theorem tag_any (p : Pt) (n : Int) (bp : Nat) (w : World) (hp : Hid (Blk w bp 56 [.int .u64 n])) (ht : 0 ≤ p.tag ∧ p.tag ≤ 255) :
    Calls Try.prog 92 #[.agg #[.string p.label, .int .i64 p.tag, .int .i64 p.ty], .pointer (some ⟨bp, 0, none⟩)] w fun e w' => e = .returned (.bool (decide (p.tag = n))) ∧ Below w.heap.size w w' := by
  obtain ⟨lb, tg, ty⟩ := p
  simp only at ht
  have hB := below1 w (.cells #[.string lb, .int .i64 tg, .int .i64 ty] 64)
  have kx := Blk.newA w #[.string lb, .int .i64 tg, .int .i64 ty] 64
  have ky := hp.out.alloc (.cells #[.string lb, .int .i64 tg, .int .i64 ty] 64)
  obtain ⟨wx, hwx⟩ : ∃ wx, wx = w.alloc (.cells #[.string lb, .int .i64 tg, .int .i64 ty] 64) := ⟨_, rfl⟩
  rw [← hwx] at hB kx ky
  have HB := hide_ hB
  have i1 := kx.cell 1
  have j0 := ky.cell 0
  simp at i1 j0
  have hwr : IntKind.u64.wrap tg = tg := by rw [IntKind.wrap_u64]; omega
  clear hB kx ky
  go_enter Try.func92, Try.ntmps92
  go_upto_region 1 with fail
  rw [← hwx]
  clear hwx
  by_cases he : tg = n
  · subst he
    go_wp2
    go_ret
    exact ⟨by simp, HB.out⟩
  · have hb : (tg == n) = false := by simpa using he
    go_wp2
    go_ret
    exact ⟨by rw [decide_eq_false he]; simp, HB.out⟩
set_option maxRecDepth 100000 in
set_option maxHeartbeats 4000000 in
theorem indexT_any (bp : Nat) (n : Int) (a : Option Addr) (c : Nat) (l : List Pt) (w : World) (hl : l.length ≤ 9223372036854775806) (htg : Hid (∀ p ∈ l, 0 ≤ p.tag ∧ p.tag ≤ 255)) (hr : Hid (PRow w a l)) (hp : Hid (Blk w bp 56 [.int .u64 n])) :
    Calls Try.prog 91 #[.slice a l.length c, .func (.func 92) #[] #[.pointer (some ⟨bp, 0, none⟩)]] w fun e w' => e = .returned (.int .i64 (armZ l n)) ∧ Below w.heap.size w w' := by
  go_enter Try.func91, Try.ntmps91
  go_wp2_with fail
  go_loopw [8] (fun x8 wr => ∃ j : Nat, j ≤ l.length ∧ x8 = .int .i64 (j : Int) ∧ Hid (∀ (i : Nat) (q : Pt), i < j → l[i]? = some q → ¬ q.tag = n) ∧ Hid (Below w.heap.size w wr)) (fun x8 _ => l.length - (intOf x8).toNat)
  case atStart => exact ⟨0, Nat.zero_le _, rfl, hide_ (fun i q hi => by omega), hide_ (Below.refl _ _)⟩
  case round =>
    obtain ⟨j, hj, rfl, HA, HB⟩ := hrel
    generalize wr = wq at *
    by_cases hlt : j < l.length
    · have hlt' : (j : Int) < l.length := by omega
      obtain ⟨b, off, rfl, hb, hc⟩ := (hr.out.later HB.out).open (by omega)
      have hx : l[j]? = some (l[j]'hlt) := List.getElem?_eq_getElem hlt
      have hcx := hc j _ hx
      have HX := hide_ hx
      have htq := htg.out _ (List.getElem_mem hlt)
      have HP := hide_ (hp.out.later HB.out)
      generalize l[j]'hlt = q at *
      have i0 := hcx 0 (by decide); have i1 := hcx 1 (by decide); have i2 := hcx 2 (by decide)
      simp [ptc] at i0 i1 i2
      clear hc hx hcx
      have HCon := hide_ (tag_any q n bp wq HP htq)
      by_cases hm : q.tag = n
      · have HL : Hid (armZ l n = (j : Int)) := hide_ (by unfold armZ; rw [armI_at HX.out hm HA.out])
        rw [decide_eq_true hm] at HCon
        clear hm htq
        go_wp2_with (go_at_call 92; refine HCon.out.mono ?_; rintro e w' ⟨rfl, hB1⟩; (have HB1 := hide_ hB1); clear hB1)
        go_ret
        exact ⟨by rw [HL.out]; rfl, below_to HB.out HB1.out⟩
      · have HA2 : Hid (∀ (i : Nat) (q : Pt), i < j + 1 → l[i]? = some q → ¬ q.tag = n) := hide_ (fun i p hi hp => by
          rcases Nat.lt_or_ge i j with h | h
          · exact HA.out i p h hp
          · obtain rfl : i = j := by omega
            rw [HX.out] at hp
            injection hp with hp
            subst hp
            exact hm)
        rw [decide_eq_false hm] at HCon
        clear hm htq
        go_wp2_with (go_at_call 92; refine HCon.out.mono ?_; rintro e w' ⟨rfl, hB1⟩; (have HB1 := hide_ (below_to HB.out hB1)); clear hB1)
        go_roundw
        case rel => exact ⟨j + 1, by omega, by go_num, HA2, HB1⟩
        case measure => simp [intOf]; omega
    · obtain rfl : j = l.length := by omega
      have HL : Hid (armZ l n = -1) := hide_ (by unfold armZ; rw [armI_none (fun i q hq => HA.out i q (List.getElem?_eq_some_iff.1 hq).1 hq)])
      go_wp2
      go_ret
      exact ⟨by rw [HL.out]; rfl, HB.out⟩
set_option maxRecDepth 100000 in
set_option maxHeartbeats 4000000 in
theorem armOf_any (k n el : Int) (ps : List Pt) (va : Option Addr) (vc : Nat) (tg : Int) (w : World) (hl : ps.length ≤ 9223372036854775806) (htg : Hid (∀ p ∈ ps, 0 ≤ p.tag ∧ p.tag ≤ 255)) (hr : Hid (PRow w va ps)) :
    Calls Try.prog 77 #[.agg #[.int .i64 k, .int .i64 n, .int .i64 el, .slice va ps.length vc], .int .u64 tg] w fun e w' => e = .returned (.int .i64 (armZ ps tg)) ∧ Below w.heap.size w w' := by
  have hmf : ∀ (fn : Fn) (first cap : Array Value) (w : World), (Instr.makeFunc fn first cap).run Try.prog w = .ok (.func fn first cap) w := fun _ _ _ _ => rfl
  have hB := below2 w (.cells #[.int .i64 k, .int .i64 n, .int .i64 el, .slice va ps.length vc] 62) (.cells #[.int .u64 tg] 56)
  obtain ⟨k1, k2⟩ := blk2 w #[.int .i64 k, .int .i64 n, .int .i64 el, .slice va ps.length vc] #[.int .u64 tg] 62 56
  obtain ⟨w0, hw0⟩ : ∃ wx, wx = (w.alloc (.cells #[.int .i64 k, .int .i64 n, .int .i64 el, .slice va ps.length vc] 62)).alloc (.cells #[.int .u64 tg] 56) := ⟨_, rfl⟩
  rw [← hw0] at hB k1 k2
  have HB := hide_ hB
  have HCon := hide_ (indexT_any (w.heap.size + 1) tg va vc ps w0 hl htg (hide_ (hr.out.later hB)) (hide_ k2))
  have i3 := k1.cell 3
  simp at i3
  clear hB k1 k2
  go_enter Try.func77, Try.ntmps77
  go_upto_region 1 with fail
  rw [← hw0]
  clear hw0
  go_wp2_with (go_at_call 91; refine HCon.out.mono ?_; rintro e w' ⟨rfl, hB1⟩; (have HB1 := hide_ hB1); clear hB1)
  go_ret
  exact ⟨rfl, below_to HB.out HB1.out⟩
set_option maxRecDepth 100000 in
set_option maxHeartbeats 4000000 in
theorem fits7_any (x : Nv) (n el : Int) (ps : List Pt) (va : Option Addr) (vc : Nat) (w : World) (hl : ps.length ≤ 9223372036854775806) (htg : Hid (∀ p ∈ ps, 0 ≤ p.tag ∧ p.tag ≤ 255)) (hr : Hid (PRow w va ps)) :
    Calls Try.prog 54 #[.agg #[.int .i64 x.k, .int .u64 x.n, .int .i64 x.kids], .agg #[.int .i64 7, .int .i64 n, .int .i64 el, .slice va ps.length vc]] w fun e w' => e = .returned (.bool (fitsP x ⟨7, n, el, ps⟩)) ∧ Below w.heap.size w w' := by
  obtain ⟨xk, xn, xd⟩ := x
  simp only
  have hB := below2 w (.cells #[.int .i64 xk, .int .u64 xn, .int .i64 xd] 58) (.cells #[.int .i64 7, .int .i64 n, .int .i64 el, .slice va ps.length vc] 62)
  obtain ⟨k1, k2⟩ := blk2 w #[.int .i64 xk, .int .u64 xn, .int .i64 xd] #[.int .i64 7, .int .i64 n, .int .i64 el, .slice va ps.length vc] 58 62
  obtain ⟨w0, hw0⟩ : ∃ wx, wx = (w.alloc (.cells #[.int .i64 xk, .int .u64 xn, .int .i64 xd] 58)).alloc (.cells #[.int .i64 7, .int .i64 n, .int .i64 el, .slice va ps.length vc] 62) := ⟨_, rfl⟩
  rw [← hw0] at hB k1 k2
  have HB := hide_ hB
  have K2 := hide_ k2
  have i0 := k1.cell 0; have i1 := k1.cell 1; have i2 := k1.cell 2
  have j0 := k2.cell 0; have j1 := k2.cell 1; have j2 := k2.cell 2; have j3 := k2.cell 3
  simp at i0 i1 i2 j0 j1 j2 j3
  have HCon := hide_ (armOf_any 7 n el ps va vc xn w0 hl htg (hide_ (hr.out.later hB)))
  clear hB k1 k2
  go_enter Try.func54, Try.ntmps54
  go_upto_region 1 with fail
  rw [← hw0]
  clear hw0
  by_cases h0 : xk = 6
  · subst h0
    by_cases h1 : xd = 1
    · subst h1
      have HV : Hid (fitsP ⟨6, xn, 1⟩ ⟨7, n, el, ps⟩ = decide (0 ≤ armZ ps xn)) := hide_ (by
        simp [fitsP]
        unfold armZ
        cases armI ps xn <;> simp)
      go_wp2_with (go_at_call 77; refine HCon.out.mono ?_; rintro e w' ⟨rfl, hB1⟩; (have HB1 := hide_ hB1); clear hB1)
      go_ret
      exact ⟨by rw [HV.out]; rfl, below_to HB.out HB1.out⟩
    · have c1 : (xd == 1) = false := by simpa using h1
      have HV : Hid (fitsP ⟨6, xn, xd⟩ ⟨7, n, el, ps⟩ = false) := hide_ (by simp [fitsP, h1])
      go_wp2
      go_ret
      exact ⟨by rw [HV.out]; rfl, HB.out⟩
  · have c0 : (xk == 6) = false := by simpa using h0
    have HV : Hid (fitsP ⟨xk, xn, xd⟩ ⟨7, n, el, ps⟩ = false) := hide_ (by simp [fitsP, h0])
    go_wp2
    go_ret
    exact ⟨by rw [HV.out]; rfl, HB.out⟩
end Go.Proofs.Ytdpkmkhflgmioaa

/- size.Length: fits, kidType, offsetOf, ownBytes. -/
namespace Go.Proofs.Ytdpkmkhflgmioaa
open Go.RowKit
set_option linter.unusedVariables false

theorem fits_any (x : Nv) (k n el : Int) (ps : List Pt) (va : Option Addr) (vc : Nat) (i : Int) (w : World) (hok : Hid (tyOk ⟨k, n, el, ps⟩ i = true)) (hr : Hid (PRow w va ps)) :
    Calls Try.prog 54 #[.agg #[.int .i64 x.k, .int .u64 x.n, .int .i64 x.kids], .agg #[.int .i64 k, .int .i64 n, .int .i64 el, .slice va ps.length vc]] w fun e w' => e = .returned (.bool (fitsP x ⟨k, n, el, ps⟩)) ∧ Below w.heap.size w w' := by
  have hk := tyOk_kind hok.out
  have hps := tyOk_len hok.out
  simp only at hk hps
  rcases hk with rfl | rfl | rfl | rfl | rfl | rfl | rfl | rfl
  · have h1 := (tyOk_parts hok.out).1
    simp only [nOk] at h1
    have h2 := of_decide_eq_true h1
    exact fits1_any x n el ps va vc w (by omega) (by omega)
  · exact fits2_any x n el ps va vc w
  · exact fits3_any x n el ps va vc w
  · exact fits4_any x n el ps va vc w
  · exact fits5_any x n el ps va vc w
  · exact fits6_any x n el ps va vc w
  · exact fits7_any x n el ps va vc w (by omega) (hide_ (tyOk_tags hok.out)) hr
  · exact fits8_any x n el ps va vc w
/-- The type of a node's kid. -/
def kidTy (x : Nv) (t : Ty) (j : Nat) : Int := if t.k = 7 then (t.ps.getD ((armI t.ps x.n).getD 0) pt0).ty else if t.k = 8 then (t.ps.getD j pt0).ty else t.e
def ownP (x : Nv) (t : Ty) : Int := if t.k = 1 then t.n else if t.k = 2 then 1 else if t.k = 3 then (max 1 ((Lib.bitLen x.n.toNat + 6) / 7) : Nat) else if t.k = 6 ∨ t.k = 7 then 1 else 0
def offP (X : List Ex) (t : Ty) (kid : Int) : Int := if t.k = 6 ∨ t.k = 7 ∨ (exAt X kid).f = true then 0 else 4
set_option maxRecDepth 100000 in
set_option maxHeartbeats 4000000 in
theorem ownBytes_any (x : Nv) (k n el : Int) (v : Value) (ps : List Pt) (w : World) (hx : NvOk x) :
    Calls Try.prog 55 #[.agg #[.int .i64 x.k, .int .u64 x.n, .int .i64 x.kids], .agg #[.int .i64 k, .int .i64 n, .int .i64 el, v]] w fun e w' => e = .returned (.int .i64 (ownP x ⟨k, n, el, ps⟩)) ∧ Below w.heap.size w w' := by
  obtain ⟨xk, xn, xd⟩ := x
  simp only
  have hx1 := hx.1
  have hx2 := hx.2
  simp only at hx1 hx2
  clear hx
  have hB := below2 w (.cells #[.int .i64 xk, .int .u64 xn, .int .i64 xd] 58) (.cells #[.int .i64 k, .int .i64 n, .int .i64 el, v] 62)
  obtain ⟨k1, k2⟩ := blk2 w #[.int .i64 xk, .int .u64 xn, .int .i64 xd] #[.int .i64 k, .int .i64 n, .int .i64 el, v] 58 62
  obtain ⟨w0, hw0⟩ : ∃ wx, wx = (w.alloc (.cells #[.int .i64 xk, .int .u64 xn, .int .i64 xd] 58)).alloc (.cells #[.int .i64 k, .int .i64 n, .int .i64 el, v] 62) := ⟨_, rfl⟩
  rw [← hw0] at hB k1 k2
  have HB := hide_ hB
  have i0 := k1.cell 0; have i1 := k1.cell 1; have i2 := k1.cell 2
  have j0 := k2.cell 0; have j1 := k2.cell 1
  simp at i0 i1 i2 j0 j1
  clear hB k1 k2
  go_enter Try.func55, Try.ntmps55
  go_upto_region 1 with fail
  rw [← hw0]
  clear hw0
  by_cases h1 : k = 1
  · subst h1
    have HV : Hid (ownP ⟨xk, xn, xd⟩ ⟨1, n, el, ps⟩ = n) := hide_ (by simp [ownP])
    go_wp2; go_ret; exact ⟨by rw [HV.out]; rfl, HB.out⟩
  have c1 : (k == 1) = false := by simpa using h1
  by_cases h2 : k = 2
  · subst h2
    have HV : Hid (ownP ⟨xk, xn, xd⟩ ⟨2, n, el, ps⟩ = 1) := hide_ (by simp [ownP])
    go_wp2; go_ret; exact ⟨by rw [HV.out]; rfl, HB.out⟩
  have c2 : (k == 2) = false := by simpa using h2
  by_cases h3 : k = 3
  · subst h3
    obtain ⟨m, rfl⟩ := Int.eq_ofNat_of_zero_le hx1
    have hm : m < 18446744073709551616 := by omega
    have hl := bitLen_64 m hm
    have HV : Hid (ownP ⟨xk, (m : Int), xd⟩ ⟨3, n, el, ps⟩ = ((max 1 ((Lib.bitLen m + 6) / 7) : Nat) : Int)) := hide_ (by simp [ownP])
    have HCon : Hid (∀ w, Calls Try.prog 78 #[.int .u64 (m : Int)] w fun e w' => e = .returned (.int .i64 (Lib.bitLen m)) ∧ w = w') := hide_ (fun w => by have h := len64_any (m : Int) w hx1 hx2; rwa [Int.toNat_natCast] at h)
    obtain ⟨q, hq⟩ : ∃ q, Lib.bitLen m = q := ⟨_, rfl⟩
    rw [hq] at HV HCon hl
    clear hq hx1 hx2 hm
    obtain ⟨W, hW⟩ : ∃ W, ownP ⟨xk, (m : Int), xd⟩ ⟨3, n, el, ps⟩ = W := ⟨_, rfl⟩
    have HW : Hid (W = ((max 1 ((q + 6) / 7) : Nat) : Int)) := hide_ (by rw [← hW]; exact HV.out)
    clear HV
    go_wp2_with (go_at_call 78; refine (HCon.out _).mono ?_; rintro e w' ⟨rfl, rfl⟩)
    all_goals
      go_ret
      refine ⟨?_, HB.out⟩
      rw [HW.out]
      refine ret_int ?_
      omega
  have c3 : (k == 3) = false := by simpa using h3
  by_cases h6 : k = 6
  · subst h6
    have HV : Hid (ownP ⟨xk, xn, xd⟩ ⟨6, n, el, ps⟩ = 1) := hide_ (by simp [ownP])
    go_wp2; go_ret; exact ⟨by rw [HV.out]; rfl, HB.out⟩
  have c6 : (k == 6) = false := by simpa using h6
  by_cases h7 : k = 7
  · subst h7
    have HV : Hid (ownP ⟨xk, xn, xd⟩ ⟨7, n, el, ps⟩ = 1) := hide_ (by simp [ownP])
    go_wp2; go_ret; exact ⟨by rw [HV.out]; rfl, HB.out⟩
  have c7 : (k == 7) = false := by simpa using h7
  have HV : Hid (ownP ⟨xk, xn, xd⟩ ⟨k, n, el, ps⟩ = 0) := hide_ (by simp [ownP, h1, h2, h3, h6, h7])
  go_wp2; go_ret; exact ⟨by rw [HV.out]; rfl, HB.out⟩
set_option maxRecDepth 100000 in
set_option maxHeartbeats 4000000 in
theorem kidType_any (x : Nv) (k n el : Int) (ps : List Pt) (va : Option Addr) (vc : Nat) (j : Nat) (i : Int) (w : World) (hok : Hid (tyOk ⟨k, n, el, ps⟩ i = true)) (hft : Hid (fitsP x ⟨k, n, el, ps⟩ = true)) (hj : (j : Int) < x.kids) (hr : Hid (PRow w va ps)) :
    Calls Try.prog 56 #[.agg #[.int .i64 x.k, .int .u64 x.n, .int .i64 x.kids], .agg #[.int .i64 k, .int .i64 n, .int .i64 el, .slice va ps.length vc], .int .i64 (j : Int)] w fun e w' => e = .returned (.int .i64 (kidTy x ⟨k, n, el, ps⟩ j)) ∧ Below w.heap.size w w' := by
  obtain ⟨xk, xn, xd⟩ := x
  have hps := tyOk_len hok.out
  simp only at hj hps ⊢
  have hB := below2 w (.cells #[.int .i64 xk, .int .u64 xn, .int .i64 xd] 58) (.cells #[.int .i64 k, .int .i64 n, .int .i64 el, .slice va ps.length vc] 62)
  obtain ⟨k1, k2⟩ := blk2 w #[.int .i64 xk, .int .u64 xn, .int .i64 xd] #[.int .i64 k, .int .i64 n, .int .i64 el, .slice va ps.length vc] 58 62
  obtain ⟨w0, hw0⟩ : ∃ wx, wx = (w.alloc (.cells #[.int .i64 xk, .int .u64 xn, .int .i64 xd] 58)).alloc (.cells #[.int .i64 k, .int .i64 n, .int .i64 el, .slice va ps.length vc] 62) := ⟨_, rfl⟩
  rw [← hw0] at hB k1 k2
  have HB := hide_ hB
  have HK1 := hide_ k1
  have HK2 := hide_ k2
  have HR0 := hide_ (hr.out.later hB)
  have j0 := k2.cell 0; have j1 := k2.cell 1; have j2 := k2.cell 2; have j3 := k2.cell 3
  simp at j0 j1 j2 j3
  clear hB k1 k2
  go_enter Try.func56, Try.ntmps56
  go_upto_region 1 with fail
  rw [← hw0]
  clear hw0
  by_cases h7 : k = 7
  · subst h7
    have hsome : ∃ m, armI ps xn = some m := by
      have h := hft.out
      simp [fitsP] at h
      exact Option.isSome_iff_exists.1 h.2
    obtain ⟨m, hm⟩ := hsome
    obtain ⟨p, hp, -⟩ := armI_some hm
    have hml := (List.getElem?_eq_some_iff.1 hp).1
    have hml' : (m : Int) < ps.length := by omega
    have HV : Hid (kidTy ⟨xk, xn, xd⟩ ⟨7, n, el, ps⟩ j = p.ty) := hide_ (by simp [kidTy, hm, List.getD, hp])
    obtain ⟨b, off, rfl, hb, hc⟩ := HR0.out.open (by omega)
    have HCon : Hid (∀ w', Below w0.heap.size w0 w' → Calls Try.prog 77 #[.agg #[.int .i64 7, .int .i64 n, .int .i64 el, .slice (some ⟨b, off, none⟩) ps.length vc], .int .u64 xn] w' fun e w'' => e = .returned (.int .i64 (m : Int)) ∧ Below w'.heap.size w' w'') := hide_ (fun w' hB => by
      have h := armOf_any 7 n el ps (some ⟨b, off, none⟩) vc xn w' (by omega) (hide_ (tyOk_tags hok.out)) (hide_ (HR0.out.later hB))
      rw [show armZ ps xn = (m : Int) by unfold armZ; rw [hm]] at h
      exact h)
    have HSS : Hid (∀ w', Below w0.heap.size w0 w' → Below w0.heap.size w0 w' ∧ w'.cell? ⟨w.heap.size, 1, none⟩ = some (.int .u64 xn) ∧ w'.cell? ⟨w.heap.size + 1, 0, none⟩ = some (.int .i64 7) ∧ w'.cell? ⟨w.heap.size + 1, 1, none⟩ = some (.int .i64 n) ∧ w'.cell? ⟨w.heap.size + 1, 2, none⟩ = some (.int .i64 el) ∧ w'.cell? ⟨w.heap.size + 1, 3, none⟩ = some (.slice (some ⟨b, off, none⟩) ps.length vc) ∧ w'.cell? ⟨b, off + m * 3 + 2, none⟩ = some (.int .i64 p.ty)) := hide_ (fun w' hB => by
      refine ⟨hB, (HK1.out.later hB).cell 1, (HK2.out.later hB).cell 0, (HK2.out.later hB).cell 1, (HK2.out.later hB).cell 2, (HK2.out.later hB).cell 3, ?_⟩
      exact (hB.cell (p := ⟨b, off + m * 3 + 2, none⟩) hb).trans (hc m p hp 2 (by decide)))
    clear hm hp hc
    go_wp2_with fail
    go_region_held_law (fun w' => Below w0.heap.size w0 w' ∧ w'.cell? ⟨w.heap.size, 1, none⟩ = some (.int .u64 xn) ∧ w'.cell? ⟨w.heap.size + 1, 0, none⟩ = some (.int .i64 7) ∧ w'.cell? ⟨w.heap.size + 1, 1, none⟩ = some (.int .i64 n) ∧ w'.cell? ⟨w.heap.size + 1, 2, none⟩ = some (.int .i64 el) ∧ w'.cell? ⟨w.heap.size + 1, 3, none⟩ = some (.slice (some ⟨b, off, none⟩) ps.length vc) ∧ w'.cell? ⟨b, off + m * 3 + 2, none⟩ = some (.int .i64 p.ty)) (first | assumption | exact HSS.out _ ((Below.refl _ _).drew) | exact HSS.out _ (Below.refl _ _))
      ((go_at_call 77; refine (HCon.out _ (by first | assumption | exact And.left (by assumption))).mono ?_; rintro e w2 ⟨rfl, hB2⟩; (have G2 := HSS.out w2 (below_to (by first | assumption | exact And.left (by assumption)) hB2)); (clear hB2)))
    have HBf := hide_ (below_to HB.out G2.1)
    clear G2 HSS HCon
    go_wp2
    go_ret
    exact ⟨by rw [HV.out]; rfl, HBf.out⟩
  have c7 : (k == 7) = false := by simpa using h7
  by_cases h8 : k = 8
  · subst h8
    have hxd : xd = (ps.length : Int) := by
      have h := hft.out
      simp [fitsP] at h
      exact h.2
    have hjl : j < ps.length := by omega
    have hjl' : (j : Int) < ps.length := by omega
    obtain ⟨b, off, rfl, hb, hc⟩ := HR0.out.open (by omega)
    have hp : ps[j]? = some (ps[j]'hjl) := List.getElem?_eq_getElem hjl
    have HV : Hid (kidTy ⟨xk, xn, xd⟩ ⟨8, n, el, ps⟩ j = (ps[j]'hjl).ty) := hide_ (by simp [kidTy, List.getD, hjl])
    have y2 := hc j _ hp 2 (by decide)
    simp [ptc] at y2
    clear hc hp hxd
    generalize (ps[j]'hjl).ty = q at *
    go_wp2
    go_ret
    exact ⟨by rw [HV.out]; rfl, HB.out⟩
  have c8 : (k == 8) = false := by simpa using h8
  have HV : Hid (kidTy ⟨xk, xn, xd⟩ ⟨k, n, el, ps⟩ j = el) := hide_ (by simp [kidTy, h7, h8])
  go_wp2
  go_ret
  exact ⟨by rw [HV.out]; rfl, HB.out⟩
set_option maxRecDepth 100000 in
set_option maxHeartbeats 4000000 in
theorem offsetOf_any (bw : Nat) (vt vn vl : Value) (ax : Option Addr) (cx : Nat) (X : List Ex) (k n el : Int) (v : Value) (ps : List Pt) (kid : Nat) (w : World) (hk : kid < X.length) (hw : Hid (Blk w bw 76 [vt, .slice ax X.length cx, vn, vl])) (hX : Hid (XRow w ax X)) :
    Calls Try.prog 57 #[.pointer (some ⟨bw, 0, none⟩), .int .i64 (kid : Int), .agg #[.int .i64 k, .int .i64 n, .int .i64 el, v]] w fun e w' => e = .returned (.int .i64 (offP X ⟨k, n, el, ps⟩ (kid : Int))) ∧ Below w.heap.size w w' := by
  have hk' : (kid : Int) < X.length := by omega
  have hB := below1 w (.cells #[.int .i64 k, .int .i64 n, .int .i64 el, v] 62)
  have kt := Blk.newA w #[.int .i64 k, .int .i64 n, .int .i64 el, v] 62
  obtain ⟨w0, hw0⟩ : ∃ wx, wx = w.alloc (.cells #[.int .i64 k, .int .i64 n, .int .i64 el, v] 62) := ⟨_, rfl⟩
  rw [← hw0] at hB kt
  have HB := hide_ hB
  obtain ⟨b, off, rfl, hb, hc⟩ := (hX.out.later hB).open (by omega)
  have y0 := hc kid _ (exAt_at hk) 0 (by decide)
  have i0 := kt.cell 0
  have j1 := (hw.out.later hB).cell 1
  simp [exc] at y0 i0 j1
  clear hB kt hc
  obtain ⟨fx, hfx⟩ : ∃ fx, (exAt X (kid : Int)).f = fx := ⟨_, rfl⟩
  rw [hfx] at y0
  have HV : Hid (offP X ⟨k, n, el, ps⟩ (kid : Int) = if k = 6 ∨ k = 7 ∨ fx = true then 0 else 4) := hide_ (by unfold offP; rw [hfx])
  clear hfx
  go_enter Try.func57, Try.ntmps57
  go_upto_region 1 with fail
  rw [← hw0]
  clear hw0
  by_cases h6 : k = 6
  · subst h6
    go_wp2; go_ret; exact ⟨by rw [HV.out]; simp, HB.out⟩
  have c6 : (k == 6) = false := by simpa using h6
  by_cases h7 : k = 7
  · subst h7
    go_wp2; go_ret; exact ⟨by rw [HV.out]; simp, HB.out⟩
  have c7 : (k == 7) = false := by simpa using h7
  cases fx with
  | true => go_wp2; go_ret; exact ⟨by rw [HV.out]; simp, HB.out⟩
  | false => go_wp2; go_ret; exact ⟨by rw [HV.out]; simp [h6, h7], HB.out⟩
end Go.Proofs.Ytdpkmkhflgmioaa

/- size.Length: plain: the walk through a value's nodes. -/
namespace Go.Proofs.Ytdpkmkhflgmioaa
open Go.RowKit
set_option linter.unusedVariables false

def plus3 (a b c : Int) : Int := capH (tot [a, b, c])
theorem plusC_any (a b d : Int) (w : World) (t : TypeId) (g : Nat) (hk : Hid (Blk w g t [.int .i64 a, .int .i64 b, .int .i64 d])) : Calls Try.prog 46 #[.slice (some ⟨g, 0, none⟩) 3 3] w fun e w' => e = .returned (.int .i64 (plus3 a b d)) ∧ w = w' := by
  refine plus_any (some ⟨g, 0, none⟩) 3 3 [a, b, d] w (by unfold maxLen; omega) rfl (.inr ⟨g, 0, rfl, fun i hi => ?_⟩)
  rw [Nat.zero_add, hk.out.cell]
  match i, hi with
  | 0, _ => rfl
  | 1, _ => rfl
  | 2, _ => rfl
/-- The kids of a node, m of them: the length so far, the lengths so far. -/
def kidsP (g : Nat → List Int → Option (Int × List Int)) (X : List Ex) (x : Nv) (t : Ty) : Nat → Int × List Int → Option (Int × List Int)
  | 0, s => some s
  | m + 1, s => (kidsP g X x t m s).bind fun s => (g (kidTy x t m).toNat s.2).bind fun r => some (plus3 s.1 (offP X t (kidTy x t m)) r.1, r.2)
/-- The value that comes next. -/
def nxP (T : List Ty) (X : List Ex) (V : List Nv) : Nat → Nat → List Int → Option (Int × List Int)
  | 0, _, _ => none
  | f + 1, num, L => if decide (L.length < V.length) && fitsP (V.getD L.length nv0) (T.getD num ty0) then
      (kidsP (nxP T X V f) X (V.getD L.length nv0) (T.getD num ty0) (V.getD L.length nv0).kids.toNat (ownP (V.getD L.length nv0) (T.getD num ty0), L ++ [0])).bind fun s => some (s.1, s.2.set L.length s.1)
    else none
theorem kidsP_len {g : Nat → List Int → Option (Int × List Int)} {X : List Ex} {x : Nv} {t : Ty} {N : Nat} (hg : ∀ num L r, L.length ≤ N → g num L = some r → L.length < r.2.length ∧ r.2.length ≤ N) :
    ∀ (m : Nat) (s r : Int × List Int), s.2.length ≤ N → kidsP g X x t m s = some r → s.2.length ≤ r.2.length ∧ r.2.length ≤ N
  | 0, s, r, hs, h => by
    simp only [kidsP] at h
    injection h with h
    subst h
    exact ⟨Nat.le_refl _, hs⟩
  | m + 1, s, r, hs, h => by
    simp only [kidsP, Option.bind_eq_some_iff] at h
    obtain ⟨q, h1, z, h2, h3⟩ := h
    have a1 := kidsP_len hg m s q hs h1
    have a2 := hg _ _ _ a1.2 h2
    injection h3 with h3
    subst h3
    exact ⟨by simp only; omega, a2.2⟩
theorem nxP_len {T : List Ty} {X : List Ex} {V : List Nv} : ∀ (f num : Nat) (L : List Int) (r : Int × List Int), L.length ≤ V.length → nxP T X V f num L = some r → L.length < r.2.length ∧ r.2.length ≤ V.length
  | 0, _, _, _, _, h => by simp [nxP] at h
  | f + 1, num, L, r, hL, h => by
    simp only [nxP] at h
    split at h
    · rename_i hc
      simp only [Bool.and_eq_true, decide_eq_true_eq] at hc
      rw [Option.bind_eq_some_iff] at h
      obtain ⟨s, h1, h2⟩ := h
      have a1 := kidsP_len (N := V.length) (fun num L r hl hg => nxP_len f num L r hl hg) _ _ _ (by simp; omega) h1
      injection h2 with h2
      subst h2
      simp only [List.length_set]
      simp at a1
      omega
    · cases h
/-- The walk's memory. -/
def WS (w : World) (bw : Nat) (vt vx vn vl : Value) (L : List Int) : Prop := Blk w bw 76 [vt, vx, vn, vl] ∧ w.ownsRow bw 3 1 vl L.length (cellsL .i64 L)
/-- What the walk may change. -/
def WU (bw : Nat) (vl : Value) (w w' : World) : Prop := Upd (fun k => k = bw ∨ vl.ownBlock = some k) w w'
theorem WS.later {w w' : World} {bw : Nat} {vt vx vn vl : Value} {L : List Int} (h : WS w bw vt vx vn vl L) (hB : Below w.heap.size w w') : WS w' bw vt vx vn vl L :=
  ⟨h.1.later hB, ownS_upd h.2 (Upd.of_below (S := fun _ => False) hB) (fun _ _ h => h)⟩
theorem WS.below {w w' : World} {bw : Nat} {vt vx vn vl : Value} {L : List Int} (h : WS w bw vt vx vn vl L) (hu : WU bw vl w w') : Below bw w w' :=
  Upd.below hu bw (Nat.le_of_lt h.1.lt) (fun k hk => by
    rcases hk with rfl | hk
    · exact Nat.le_refl _
    · exact (h.2.lt k hk).1)
theorem WS.keep {w w' : World} {bw : Nat} {vt vx vn vl : Value} {L : List Int} {g : Nat} {t : TypeId} {xs : List Value} (h : WS w bw vt vx vn vl L) (hu : WU bw vl w w') (hb : Blk w g t xs) (h1 : t ≠ 76) (h2 : t ≠ 3) : Blk w' g t xs :=
  hb.upd hu (fun e => by
    rcases e with rfl | e
    · exact h1 (blk_type hb h.1)
    · exact own_ne_t h.2 hb (Ne.symm h2) e)
/-- Where a later list of lengths lies. -/
def VN (vl vl' : Value) (w : World) : Prop := ∀ k, vl'.ownBlock = some k → vl.ownBlock = some k ∨ w.heap.size ≤ k
theorem VN.refl (vl : Value) (w : World) : VN vl vl w := fun k h => .inl h
theorem VN.trans {a b c : Value} {w w' : World} (h : VN a b w) (g : VN b c w') (hs : w.heap.size ≤ w'.heap.size) : VN a c w := fun k hk => by
  rcases g k hk with h1 | h1
  · exact h k h1
  · exact .inr (by omega)
theorem WU.trans {bw : Nat} {vl vl' : Value} {a b c : World} (h : WU bw vl a b) (g : WU bw vl' b c) (hv : VN vl vl' a) : WU bw vl a c :=
  Upd.trans h g (fun k hk ht => by
    rcases ht with ht | ht
    · exact .inl ht
    · rcases hv k ht with h1 | h1
      · exact .inr h1
      · omega)
theorem WU.then {bw : Nat} {vl : Value} {a b c : World} (h : WU bw vl a b) (g : Below b.heap.size b c) : WU bw vl a c := Upd.then h g
theorem WU.refl (bw : Nat) (vl : Value) (w : World) : WU bw vl w w := Upd.refl _ _
/-- What next answers. -/
def NxTo (r : Option (Int × List Int)) (w : World) (bw : Nat) (vt vx vn vl : Value) (e : Ending) (w' : World) : Prop :=
  WU bw vl w w' ∧ match r with
    | none => e = .returned (.tuple #[.int .i64 0, .bool false])
    | some r => e = .returned (.tuple #[.int .i64 r.1, .bool true]) ∧ ∃ vl', WS w' bw vt vx vn vl' r.2 ∧ VN vl vl' w
theorem kidTy_bd {x : Nv} {t : Ty} {i : Int} {j : Nat} (h : tyOk t i = true) (hf : fitsP x t = true) (hj : (j : Int) < x.kids) : 0 ≤ kidTy x t j ∧ kidTy x t j < i := by
  obtain ⟨k, n, el, ps⟩ := t
  have hk := tyOk_kind h
  simp only at hk
  unfold kidTy
  simp only
  rcases hk with rfl | rfl | rfl | rfl | rfl | rfl | rfl | rfl
  · simp [fitsP] at hf; omega
  · simp [fitsP] at hf; omega
  · simp [fitsP] at hf; omega
  · have := tyOk_elem h rfl; simpa using this
  · have := tyOk_elem h rfl; simpa using this
  · have := tyOk_elem h rfl; simpa using this
  · simp [fitsP] at hf
    obtain ⟨m, hm⟩ := Option.isSome_iff_exists.1 hf.2
    obtain ⟨p, hp, -⟩ := armI_some hm
    have := tyOk_part h hp
    simp [hm, List.getD, hp]
    exact this
  · simp [fitsP] at hf
    have hjl : j < ps.length := by omega
    have := tyOk_part h (List.getElem?_eq_getElem hjl)
    simp [List.getD, hjl]
    exact this
end Go.Proofs.Ytdpkmkhflgmioaa

/- size.Length: next. -/
namespace Go.Proofs.Ytdpkmkhflgmioaa
open Go.RowKit
set_option linter.unusedVariables false

theorem EInt : Elem Try.prog 26 3 .i64 8 := ⟨Try.underlying26, Try.underlying3, by kernel_rfl⟩
theorem own_form {w : World} {B : Nat} {v : Value} {l : List Int} (h : w.ownsRow B 3 1 v l.length (cellsL .i64 l)) : ∃ a c, v = .slice a l.length c := by
  obtain ⟨a, c, rfl, _⟩ := own_open h rfl
  exact ⟨a, c, rfl⟩
theorem own_set {w : World} {B : Nat} {v : Value} {l : List Int} (h : w.ownsRow B 3 1 v l.length (cellsL .i64 l)) {i : Nat} (hi : i < l.length) :
    ∃ g cap, v = .slice (some ⟨g, 0, none⟩) l.length cap ∧ B ≤ g ∧ w.cell? ⟨g, i, none⟩ = some (.int .i64 (l.getD i 0)) ∧ w.frozen? ⟨g, i, none⟩ = false ∧ ∀ x, (w.setCell ⟨g, i, none⟩ (.int .i64 x)).ownsRow B 3 1 v l.length (cellsL .i64 (l.set i x)) := by
  obtain ⟨g, cap, ys, rfl, hb, hn, hm, hl, ht, hK⟩ := own_blk h (by omega)
  refine ⟨g, cap, rfl, hb, ?_, hK.frozen i, fun x => ?_⟩
  · rw [hK.cell, ← cellsL_at .i64 l i hi, ← ht, List.getElem?_take, if_pos hi]
  · have h1 := (hK.set i (.int .i64 x)).owns B l.length cap hb (by simp [hl]) hn hm
    rw [List.take_set, ht, cellsL_set] at h1
    exact h1
theorem kidsP_none {g : Nat → List Int → Option (Int × List Int)} {X : List Ex} {x : Nv} {t : Ty} {s : Int × List Int} {m : Nat} (h : kidsP g X x t m s = none) : ∀ m', m ≤ m' → kidsP g X x t m' s = none
  | 0, hm => by obtain rfl : m = 0 := by omega
                exact h
  | m' + 1, hm => by
    rcases Nat.lt_or_ge m' m with h1 | h1
    · obtain rfl : m = m' + 1 := by omega
      exact h
    · simp only [kidsP]
      rw [kidsP_none h m' h1]
      rfl
theorem fits_kids {x : Nv} {t : Ty} {i : Int} (h : tyOk t i = true) (hf : fitsP x t = true) : x.kids ≤ 1048576 := by
  have hl := tyOk_len h
  obtain ⟨k, n, el, ps⟩ := t
  have hk := tyOk_kind h
  have h1 := (tyOk_parts h).1
  simp only at hk hl h1
  rcases hk with rfl | rfl | rfl | rfl | rfl | rfl | rfl | rfl
  · simp [fitsP] at hf; omega
  · simp [fitsP] at hf; omega
  · simp [fitsP] at hf; omega
  · simp [nOk] at h1; simp [fitsP] at hf; omega
  · simp [nOk] at h1; simp [fitsP] at hf; omega
  · simp [fitsP] at hf; omega
  · simp [fitsP] at hf; omega
  · simp [fitsP] at hf; omega
set_option maxRecDepth 100000 in
set_option maxHeartbeats 16000000 in
theorem next_any (T : List Ty) (R : List Rt) (X : List Ex) (V : List Nv) (aT aX aV : Option Addr) (cT cX cV bw : Nat) (wB : World) (hOK : Hid (OkS T R)) (hXl : Hid (X.length = T.length)) (hTl : T.length ≤ 1000000000) (hVl : V.length ≤ 1000000000) (hVk : Hid (∀ x ∈ V, NvOk x)) (hL : Hid (LensT T)) (hT : Hid (TRow wB aT T)) (hX : Hid (XRow wB aX X)) (hV : Hid (VRow wB aV V)) (hbw : wB.heap.size = bw) :
    ∀ f : Nat, Hid (∀ (num : Nat) (w : World) (vl : Value) (L : List Int), num < f → num < T.length → L.length ≤ V.length → Hid (Below bw wB w) → Hid (WS w bw (.slice aT T.length cT) (.slice aX X.length cX) (.slice aV V.length cV) vl L) →
      Calls Try.prog 31 #[.pointer (some ⟨bw, 0, none⟩), .int .i64 (num : Int)] w fun e w' => NxTo (nxP T X V f num L) w bw (.slice aT T.length cT) (.slice aX X.length cX) (.slice aV V.length cV) vl e w') := by
  intro f
  induction f with
  | zero => exact hide_ (fun num w vl L h => by omega)
  | succ f ih =>
    refine hide_ (fun num w vl L hnf hnT hLV HBw HW => ?_)
    have HIH := ih
    clear ih
    subst hbw
    have hK := HW.out.1
    obtain ⟨al, cl, rfl⟩ := own_form HW.out.2
    have hnT' : (num : Int) < T.length := by omega
    obtain ⟨bT, oT, rfl, hbT0, hcT⟩ := hT.out.open (by omega)
    have hxT : T[num]? = some (T[num]'hnT) := List.getElem?_eq_getElem hnT
    obtain ⟨va, vc, hct0, hvc, -, hP⟩ := hcT num _ hxT
    have hct := fun j (hj : j < 4) => (HBw.out.cell (p := ⟨bT, oT + num * 4 + j, none⟩) hbT0).trans (hct0 j hj)
    have hbT : bT < w.heap.size := Nat.lt_of_lt_of_le hbT0 (Nat.le_trans (Nat.le_refl _) HBw.out.size)
    clear hct0 hbT0
    have hok1 := hOK.out.ty num hnT
    have hgT : T.getD num ty0 = T[num]'hnT := by simp [List.getD, hnT]
    rw [hgT] at hok1
    have c0 := hK.cell 0; have c1 := hK.cell 1; have c2 := hK.cell 2; have c3 := hK.cell 3
    simp at c0 c1 c2 c3
    have HK := hide_ hK
    have HNX : Hid (nxP T X V (f + 1) num L = if decide (L.length < V.length) && fitsP (V.getD L.length nv0) (T[num]'hnT) then (kidsP (nxP T X V f) X (V.getD L.length nv0) (T[num]'hnT) (V.getD L.length nv0).kids.toNat (ownP (V.getD L.length nv0) (T[num]'hnT), L ++ [0])).bind fun s => some (s.1, s.2.set L.length s.1) else none) := hide_ (by
      have h : nxP T X V (f + 1) num L = _ := rfl
      rw [h]
      simp only [nxP]
      rw [hgT])
    generalize nxP T X V (f + 1) num L = res at *
    generalize T[num]'hnT = t at *
    obtain ⟨k, n, el, ps⟩ := t
    simp only at hvc hP
    have t0 := hct 0 (by decide); have t1 := hct 1 (by decide); have t2 := hct 2 (by decide); have t3 := hct 3 (by decide)
    simp [tyc] at t0 t1 t2 t3
    have HOK1 := hide_ hok1
    have HP := hide_ hP
    clear hcT hxT hct hP hok1 hgT hK
    go_enter Try.func31, Try.ntmps31
    go_upto_region 2 with fail
    by_cases hat : L.length = V.length
    · have hat' : ((L.length : Int) == (V.length : Int)) = true := by rw [hat]; simp
      have HV0 : Hid (res = none) := hide_ (by rw [HNX.out, if_neg]; simp; omega)
      go_wp2_with fail
      go_quiet (fail)
      have HU := hide_ ((WU.refl wB.heap.size (.slice al L.length cl) w).then (below_drewN (Below.refl _ w) nq))
      go_wp2
      go_ret2
      exact ⟨HU.out, by rw [HV0.out]; rfl⟩
    have hat' : ((L.length : Int) == (V.length : Int)) = false := by
      have h : ¬ (L.length : Int) = (V.length : Int) := by omega
      simpa using h
    have hlt : L.length < V.length := by omega
    have hlt' : (L.length : Int) < V.length := by omega
    obtain ⟨bV, oV, rfl, hbV, hcV⟩ := (hV.out.later HBw.out).open (by omega)
    have hxV : V[L.length]? = some (V[L.length]'hlt) := List.getElem?_eq_getElem hlt
    have hcx := hcV L.length _ hxV
    have hvk := hVk.out _ (List.getElem_mem hlt)
    rw [show V.getD L.length nv0 = V[L.length]'hlt by simp [List.getD, hlt]] at HNX
    generalize V[L.length]'hlt = x at *
    have x0 := hcx 0 (by decide); have x1 := hcx 1 (by decide); have x2 := hcx 2 (by decide)
    simp [nvc] at x0 x1 x2
    have HVK := hide_ hvk
    clear hcV hxV hcx hvk
    rw [decide_eq_true hlt, Bool.true_and] at HNX
    have HFit : Hid (∀ w', Below w.heap.size w w' → Calls Try.prog 54 #[.agg #[.int .i64 x.k, .int .u64 x.n, .int .i64 x.kids], .agg #[.int .i64 k, .int .i64 n, .int .i64 el, .slice va ps.length vc]] w' fun e w'' => e = .returned (.bool (fitsP x ⟨k, n, el, ps⟩)) ∧ Below w'.heap.size w' w'') := hide_ (fun w' hB => fits_any x k n el ps va vc num w' HOK1 (hide_ (HP.out.later (HBw.out.trans (hB.mono HBw.out.size)))))
    obtain ⟨ft, hft⟩ : ∃ ft, fitsP x ⟨k, n, el, ps⟩ = ft := ⟨_, rfl⟩
    rw [hft] at HFit HNX
    have HFT := hide_ hft
    clear hft
    have HSS : Hid (∀ w', Below w.heap.size w w' → Below w.heap.size w w' ∧ w'.cell? ⟨wB.heap.size, 0, none⟩ = some (.slice (some ⟨bT, oT, none⟩) T.length cT) ∧ w'.cell? ⟨wB.heap.size, 2, none⟩ = some (.slice (some ⟨bV, oV, none⟩) V.length cV) ∧ w'.cell? ⟨bV, oV + L.length * 3, none⟩ = some (.int .i64 x.k) ∧ w'.cell? ⟨bV, oV + L.length * 3 + 1, none⟩ = some (.int .u64 x.n) ∧ w'.cell? ⟨bV, oV + L.length * 3 + 2, none⟩ = some (.int .i64 x.kids) ∧ w'.cell? ⟨bT, oT + num * 4, none⟩ = some (.int .i64 k) ∧ w'.cell? ⟨bT, oT + num * 4 + 1, none⟩ = some (.int .i64 n) ∧ w'.cell? ⟨bT, oT + num * 4 + 2, none⟩ = some (.int .i64 el) ∧ w'.cell? ⟨bT, oT + num * 4 + 3, none⟩ = some (.slice va ps.length vc)) := hide_ (fun w' hB => by
      have hk := HK.out.later hB
      refine ⟨hB, hk.cell 0, hk.cell 2, ?_, ?_, ?_, ?_, ?_, ?_, ?_⟩
      · exact (hB.cell (p := ⟨bV, oV + L.length * 3, none⟩) hbV).trans x0
      · exact (hB.cell (p := ⟨bV, oV + L.length * 3 + 1, none⟩) hbV).trans x1
      · exact (hB.cell (p := ⟨bV, oV + L.length * 3 + 2, none⟩) hbV).trans x2
      · exact (hB.cell (p := ⟨bT, oT + num * 4, none⟩) hbT).trans t0
      · exact (hB.cell (p := ⟨bT, oT + num * 4 + 1, none⟩) hbT).trans t1
      · exact (hB.cell (p := ⟨bT, oT + num * 4 + 2, none⟩) hbT).trans t2
      · exact (hB.cell (p := ⟨bT, oT + num * 4 + 3, none⟩) hbT).trans t3)
    go_wp2_with fail
    go_region_held_law (fun w' => Below w.heap.size w w' ∧ w'.cell? ⟨wB.heap.size, 0, none⟩ = some (.slice (some ⟨bT, oT, none⟩) T.length cT) ∧ w'.cell? ⟨wB.heap.size, 2, none⟩ = some (.slice (some ⟨bV, oV, none⟩) V.length cV) ∧ w'.cell? ⟨bV, oV + L.length * 3, none⟩ = some (.int .i64 x.k) ∧ w'.cell? ⟨bV, oV + L.length * 3 + 1, none⟩ = some (.int .u64 x.n) ∧ w'.cell? ⟨bV, oV + L.length * 3 + 2, none⟩ = some (.int .i64 x.kids) ∧ w'.cell? ⟨bT, oT + num * 4, none⟩ = some (.int .i64 k) ∧ w'.cell? ⟨bT, oT + num * 4 + 1, none⟩ = some (.int .i64 n) ∧ w'.cell? ⟨bT, oT + num * 4 + 2, none⟩ = some (.int .i64 el) ∧ w'.cell? ⟨bT, oT + num * 4 + 3, none⟩ = some (.slice va ps.length vc)) (first | assumption | exact HSS.out _ ((Below.refl _ _).drew) | exact HSS.out _ (Below.refl _ _))
      ((go_at_call 54; refine (HFit.out _ (by first | assumption | exact And.left (by assumption))).mono ?_; rintro e w2 ⟨rfl, hB2⟩; (have G2 := HSS.out w2 (below_to (by first | assumption | exact And.left (by assumption)) hB2)); (clear hB2)))
    obtain ⟨hB2, g0, g2, gx0, gx1, gx2, gt0, gt1, gt2, gt3⟩ := G2
    have HW2 := hide_ (HW.out.later hB2)
    have HU2 := hide_ ((WU.refl wB.heap.size (.slice al L.length cl) w).then hB2)
    have HBw2 := hide_ (HBw.out.trans (hB2.mono HBw.out.size))
    have hz2 := hB2.size
    have hlB : wB.heap.size < w2.heap.size := HW2.out.1.lt
    have hbV2 : bV < w2.heap.size := by omega
    have hbT2 : bT < w2.heap.size := by omega
    clear hB2 HSS HFit HK HW c0 c1 c2 c3 t0 t1 t2 t3 x0 x1 x2 hbV hbT
    cases ft with
    | false =>
      have HV0 : Hid (res = none) := hide_ (by rw [HNX.out]; rfl)
      go_wp2
      go_ret2
      exact ⟨HU2.out, by rw [HV0.out]; rfl⟩
    | true =>
    go_upto_region 4 with fail
    go_cut [7, 8] from 43 to 57 (fun x7 x8 wc => ∃ bn bt w3, w3 = wc ∧ x7 = .pointer (some ⟨bn, 0, none⟩) ∧ x8 = .pointer (some ⟨bt, 0, none⟩) ∧ Hid (Blk w3 bn 58 (nvc x)) ∧ Hid (Blk w3 bt 62 [.int .i64 k, .int .i64 n, .int .i64 el, .slice va ps.length vc]) ∧ Hid (Below w2.heap.size w2 w3))
    case first =>
      have HA : Hid (∀ xs ys : Array Value, ∀ t t' : TypeId, Blk ((w2.alloc (.cells xs t)).alloc (.cells ys t')).drew w2.heap.size t xs.toList ∧ Blk ((w2.alloc (.cells xs t)).alloc (.cells ys t')).drew (w2.heap.size + 1) t' ys.toList ∧ Below w2.heap.size w2 ((w2.alloc (.cells xs t)).alloc (.cells ys t')).drew) := hide_ (fun xs ys t t' => ⟨(blk2 w2 xs ys t t').1.drew, (blk2 w2 xs ys t t').2.drew, (below2 w2 _ _).drew⟩)
      go_wp2_with fail
      go_region
      all_goals
        go_wp2
        go_meet
        case rel => first
          | exact ⟨_, _, _, rfl, rfl, rfl, hide_ (HA.out _ _ _ _).1, hide_ (HA.out _ _ _ _).2.1, hide_ (HA.out _ _ _ _).2.2⟩
          | exact ⟨_, _, _, rfl, rfl, rfl, hide_ (HA.out _ _ _ _).2.1, hide_ (HA.out _ _ _ _).1, hide_ (HA.out _ _ _ _).2.2⟩
    case rest =>
    obtain ⟨bn, bt, w3, rfl, rfl, rfl, HN3, HT3, HB3⟩ := hcut
    have HW3 := hide_ (HW2.out.later HB3.out)
    have HU3 := hide_ (HU2.out.then HB3.out)
    have HBw3 := hide_ (HBw2.out.trans (HB3.out.mono HBw2.out.size))
    obtain ⟨g, cap, w4, hrun, hO4, hU4, hg4⟩ := run_push EInt w3 26 wB.heap.size (.slice al L.length cl) L.length L HW3.out.2 0 (by unfold maxLen; omega) (by omega) HBw3.out.size
    have hK4 := HW3.out.1.upd hU4 (fun e => own_ne_t HW3.out.2 HW3.out.1 (by decide) e)
    have hN4 := HN3.out.upd hU4 (fun e => own_ne_t HW3.out.2 HN3.out (by decide) e)
    have hT4 := HT3.out.upd hU4 (fun e => own_ne_t HW3.out.2 HT3.out (by decide) e)
    have hgb : g ≠ wB.heap.size := fun e => own_ne_t hO4 hK4 (by decide) (by rw [← e]; rfl)
    have HU4 : Hid (WU wB.heap.size (.slice al L.length cl) w3 w4) := hide_ (hU4.mono (fun k _ hk => .inr hk))
    have HW5 : Hid (WS (w4.setCell ⟨wB.heap.size, 3, none⟩ (.slice (some ⟨g, 0, none⟩) (L.length + 1) cap)) wB.heap.size (.slice (some ⟨bT, oT, none⟩) T.length cT) (.slice aX X.length cX) (.slice (some ⟨bV, oV, none⟩) V.length cV) (.slice (some ⟨g, 0, none⟩) (L.length + 1) cap) (L ++ [0])) := hide_ (by
      refine ⟨?_, ?_⟩
      · have h := hK4.set 3 (.slice (some ⟨g, 0, none⟩) (L.length + 1) cap)
        simpa using h
      · have h := ownS_upd hO4 ((Upd.refl (fun k => k = wB.heap.size) w4).set ⟨wB.heap.size, 3, none⟩ (.slice (some ⟨g, 0, none⟩) (L.length + 1) cap) (.inl rfl)) (fun k hk e => hgb (by rw [← e]; exact own_is hk))
        rw [List.length_append, List.length_singleton]
        exact h)
    have HN5 := hide_ (hN4.other ⟨wB.heap.size, 3, none⟩ (.slice (some ⟨g, 0, none⟩) (L.length + 1) cap) (blk_ne hN4 hK4 (by decide)))
    have HT5 := hide_ (hT4.other ⟨wB.heap.size, 3, none⟩ (.slice (some ⟨g, 0, none⟩) (L.length + 1) cap) (blk_ne hT4 hK4 (by decide)))
    have HU5 : Hid (WU wB.heap.size (.slice al L.length cl) w (w4.setCell ⟨wB.heap.size, 3, none⟩ (.slice (some ⟨g, 0, none⟩) (L.length + 1) cap))) := hide_ ((HU3.out.to HU4.out).set _ _ (.inl (.inl rfl)))
    have HBw5 := hide_ (below_set (HBw3.out.trans (Upd.below HU4.out wB.heap.size HBw3.out.size (fun k hk => by
      rcases hk with hk | hk
      · omega
      · exact (HW3.out.2.lt k hk).1))) wB.heap.size 3 (.slice (some ⟨g, 0, none⟩) (L.length + 1) cap) (Nat.le_refl _))
    have HVN5 : Hid (VN (.slice al L.length cl) (.slice (some ⟨g, 0, none⟩) (L.length + 1) cap) w) := hide_ (fun k hk => by
      obtain rfl := own_is hk
      have h1 := HB3.out.size
      rcases hg4 with h | h
      · exact .inl h
      · exact .inr (by omega))
    have q3 := hK4.cell 3
    have fr := hK4.frozen 3
    have r3 := HW3.out.1.cell 3
    simp at q3 r3
    have HRun := hide_ hrun
    obtain ⟨w5, hw5⟩ : ∃ w5, w5 = w4.setCell ⟨wB.heap.size, 3, none⟩ (.slice (some ⟨g, 0, none⟩) (L.length + 1) cap) := ⟨_, rfl⟩
    rw [← hw5] at HW5 HN5 HT5 HU5 HBw5
    clear hrun hO4 hU4 hg4 hK4 hN4 hT4 hgb HU4 HW3 HU3 HBw3 HW2 HU2 HBw2 HN3 HT3 HB3 g0 g2 gx0 gx1 gx2 gt0 gt1 gt2 gt3 hlB hbV2 hbT2 hz2
    go_upto_region 6 with (first | (at_builtin; refine wpList_append_run rfl (.tmp 62) (.tmp 63) 26 26 rfl rfl rfl HRun.out ?_; clear HRun))
    rw [← hw5]
    clear hw5 q3 fr r3
    generalize hv5 : Value.slice (some ⟨g, 0, none⟩) (L.length + 1) cap = vl5 at *
    clear hv5
    have y0 := HN5.out.cell 0; have y1 := HN5.out.cell 1; have y2 := HN5.out.cell 2
    have z0 := HT5.out.cell 0; have z1 := HT5.out.cell 1; have z2 := HT5.out.cell 2; have z3 := HT5.out.cell 3
    simp [nvc] at y0 y1 y2 z0 z1 z2 z3
    obtain ⟨o0, ho0⟩ : ∃ o0, ownP x ⟨k, n, el, ps⟩ = o0 := ⟨_, rfl⟩
    have HCo := hide_ (ownBytes_any x k n el (.slice va ps.length vc) ps w5 HVK.out)
    rw [ho0] at HCo HNX
    clear ho0
    go_wp2_with fail
    refine HCo.out.mono ?_; rintro e w6 ⟨rfl, hB6⟩
    have HW6 := hide_ (HW5.out.later hB6)
    have HN6 := hide_ (HN5.out.later hB6)
    have HT6 := hide_ (HT5.out.later hB6)
    have HU6 := hide_ (HU5.out.then hB6)
    have HBw6 := hide_ (HBw5.out.trans (hB6.mono HBw5.out.size))
    clear hB6 HW5 HN5 HT5 HU5 HBw5 HCo y0 y1 y2 z0 z1 z2 z3
    have y2 := HN6.out.cell 2
    simp [nvc] at y2
    have hL1 : (L ++ [0]).length ≤ V.length := by simp; omega
    have hHg : ∀ (num : Nat) (L : List Int) (r : Int × List Int), L.length ≤ V.length → nxP T X V f num L = some r → L.length < r.2.length ∧ r.2.length ≤ V.length := fun num L r h1 h2 => nxP_len f num L r h1 h2
    have HHg := hide_ hHg
    have hkk := fits_kids HOK1.out HFT.out
    clear hHg
    go_wp2_with fail
    go_loopw [9, 72] (fun x9 x72 wr => ∃ (m : Nat) (len : Int) (L' : List Int) (vl' : Value), m ≤ x.kids.toNat ∧ x72 = .int .i64 (m : Int) ∧ x9 = .int .i64 len ∧ Hid (kidsP (nxP T X V f) X x ⟨k, n, el, ps⟩ m (o0, L ++ [0]) = some (len, L')) ∧ Hid (WS wr wB.heap.size (.slice (some ⟨bT, oT, none⟩) T.length cT) (.slice aX X.length cX) (.slice (some ⟨bV, oV, none⟩) V.length cV) vl' L') ∧ Hid (WU wB.heap.size vl5 w6 wr) ∧ Hid (VN vl5 vl' w6) ∧ Hid (Below wB.heap.size wB wr)) (fun _ x72 _ => x.kids.toNat - (intOf x72).toNat)
    case atStart => exact ⟨0, o0, L ++ [0], vl5, Nat.zero_le _, rfl, rfl, hide_ rfl, HW6, hide_ (WU.refl _ _ _), hide_ (VN.refl _ _), HBw6⟩
    case round =>
      obtain ⟨m, len, L', vl', hm, rfl, rfl, HKd, HWr, HUr, HVr, HBr⟩ := hrel
      generalize wr = wq at *
      clear y2 HBw6
      have HNq := hide_ (HW6.out.keep HUr.out HN6.out (by decide) (by decide))
      have HTq := hide_ (HW6.out.keep HUr.out HT6.out (by decide) (by decide))
      have hL' := kidsP_len HHg.out m _ _ hL1 HKd.out
      simp only [List.length_append, List.length_singleton] at hL'
      have y0 := HNq.out.cell 0; have y1 := HNq.out.cell 1; have y2 := HNq.out.cell 2
      have z0 := HTq.out.cell 0; have z1 := HTq.out.cell 1; have z2 := HTq.out.cell 2; have z3 := HTq.out.cell 3
      simp [nvc] at y0 y1 y2 z0 z1 z2 z3
      by_cases hmk : (m : Int) < x.kids
      · have HCt := hide_ (kidType_any x k n el ps va vc m (num : Int) wq HOK1 HFT hmk (hide_ (HP.out.later HBr.out)))
        have hkb := kidTy_bd HOK1.out HFT.out hmk
        have HSc : Hid (kidsP (nxP T X V f) X x ⟨k, n, el, ps⟩ (m + 1) (o0, L ++ [0]) = (nxP T X V f (kidTy x ⟨k, n, el, ps⟩ m).toNat L').bind fun r => some (plus3 len (offP X ⟨k, n, el, ps⟩ (kidTy x ⟨k, n, el, ps⟩ m)) r.1, r.2)) := hide_ (by simp only [kidsP]; rw [HKd.out]; rfl)
        obtain ⟨kd, hkd⟩ : ∃ kd : Nat, kidTy x ⟨k, n, el, ps⟩ m = (kd : Int) := Int.eq_ofNat_of_zero_le hkb.1
        rw [hkd] at HCt hkb HSc
        rw [Int.toNat_natCast] at HSc
        clear hkd
        have hkn : kd < num := by omega
        go_wp2_with fail
        refine HCt.out.mono ?_; rintro e w7 ⟨rfl, hB7⟩
        have HW7 := hide_ (HWr.out.later hB7)
        have HB7 := hide_ (HBr.out.trans (hB7.mono HBr.out.size))
        have HU7 := hide_ (HUr.out.then hB7)
        have HVr7 : Hid (w6.heap.size ≤ w7.heap.size) := hide_ HU7.out.size
        have HN7 := hide_ (HNq.out.later hB7)
        have HT7 := hide_ (HTq.out.later hB7)
        have HCn := hide_ (HIH.out kd w7 vl' L' (by omega) (by omega) hL'.2 HB7 HW7)
        obtain ⟨r, hr⟩ : ∃ r, nxP T X V f kd L' = r := ⟨_, rfl⟩
        rw [hr] at HCn HSc
        have HR := hide_ hr
        clear hr hB7 y0 y1 y2 z0 z1 z2 z3 HCt
        go_wp2_with fail
        refine HCn.out.mono ?_
        rintro e w8 ⟨hU8, hE8⟩
        have HU8 := hide_ hU8
        have HU68 := hide_ (WU.trans HU7.out hU8 HVr.out)
        clear hU8
        cases r with
        | none =>
          subst hE8
          have HV0 : Hid (res = none) := hide_ (by
            rw [HNX.out]
            simp only [if_true]
            rw [kidsP_none (m := m + 1) HSc.out x.kids.toNat (by omega)]
            rfl)
          have HUf := hide_ (WU.trans HU6.out HU68.out HVN5.out)
          go_wp2
          go_ret2
          exact ⟨HUf.out, by rw [HV0.out]; rfl⟩
        | some r =>
          obtain ⟨kl, L2⟩ := r
          obtain ⟨rfl, vl2, hW8, hV8⟩ := hE8
          have HW8 := hide_ hW8
          have HV8 := hide_ (VN.trans HVr.out hV8 HVr7.out)
          have HB8 := hide_ (HB7.out.trans (WS.below HW7.out HU8.out))
          have HT8 := hide_ (WS.keep HW7.out HU8.out HT7.out (by decide) (by decide))
          have z0 := HT8.out.cell 0; have z1 := HT8.out.cell 1; have z2 := HT8.out.cell 2; have z3 := HT8.out.cell 3
          simp at z0 z1 z2 z3
          have HCf := hide_ (offsetOf_any wB.heap.size (.slice (some ⟨bT, oT, none⟩) T.length cT) (.slice (some ⟨bV, oV, none⟩) V.length cV) vl2 aX cX X k n el (.slice va ps.length vc) ps kd w8 (by have := hXl.out; omega) (hide_ HW8.out.1) (hide_ (hX.out.later HB8.out)))
          obtain ⟨of, hof⟩ : ∃ of, offP X ⟨k, n, el, ps⟩ (kd : Int) = of := ⟨_, rfl⟩
          rw [hof] at HCf HSc
          clear hof hW8 hV8 HCn
          go_wp2_with fail
          refine HCf.out.mono ?_; rintro e w9 ⟨rfl, hB9⟩
          have kP := Blk.newA w9 #[.int .i64 len, .int .i64 of, .int .i64 kl] 3
          have hB10 := below1 w9 (.cells #[.int .i64 len, .int .i64 of, .int .i64 kl] 3)
          obtain ⟨w10, hw10⟩ : ∃ w10, w10 = w9.alloc (.cells #[.int .i64 len, .int .i64 of, .int .i64 kl] 3) := ⟨_, rfl⟩
          rw [← hw10] at kP hB10
          have hB810 := below_to hB9 hB10
          have HW10 := hide_ (HW8.out.later hB810)
          have HU10 := hide_ (HU68.out.then hB810)
          have HB10 := hide_ (HB8.out.trans (hB810.mono HB8.out.size))
          have HKP := hide_ kP
          have HSn : Hid (kidsP (nxP T X V f) X x ⟨k, n, el, ps⟩ (m + 1) (o0, L ++ [0]) = some (plus3 len of kl, L2)) := hide_ HSc.out
          clear kP hB9 hB10 hB810 z0 z1 z2 z3 HCf
          obtain ⟨pv, hpv⟩ : ∃ pv, plus3 len of kl = pv := ⟨_, rfl⟩
          have HCp : Hid (Calls Try.prog 46 #[.slice (some ⟨w9.heap.size, 0, none⟩) 3 3] w10 fun e w' => e = .returned (.int .i64 pv) ∧ w10 = w') := hide_ (by have h := plusC_any len of kl w10 3 w9.heap.size HKP; rwa [hpv] at h)
          rw [hpv] at HSn
          clear hpv
          go_wp2_with fail
          rw [← hw10]
          refine HCp.out.mono ?_; rintro e w' ⟨rfl, rfl⟩
          clear hw10
          go_wp2_with fail
          go_roundw
          case rel => exact ⟨m + 1, pv, L2, vl2, by omega, by go_num, rfl, HSn, HW10, HU10, HV8, HB10⟩
          case measure => simp [intOf]; omega
      · obtain rfl : m = x.kids.toNat := by omega
        have HVs : Hid (res = some (len, L'.set L.length len)) := hide_ (by
          rw [HNX.out]
          simp only [if_true]
          rw [HKd.out]
          rfl)
        obtain ⟨g2, cap2, hv2, hgb, hc2, hf2, hset⟩ := own_set HWr.out.2 (i := L.length) (by omega)
        subst hv2
        have k3 := HWr.out.1.cell 3
        simp at k3
        have hi2 : (L.length : Int) < L'.length := by omega
        have hne : wB.heap.size ≠ g2 := fun e => own_ne_t HWr.out.2 HWr.out.1 (by decide) (by rw [e]; rfl)
        have HWe : Hid (WS (wq.setCell ⟨g2, L.length, none⟩ (.int .i64 len)) wB.heap.size (.slice (some ⟨bT, oT, none⟩) T.length cT) (.slice aX X.length cX) (.slice (some ⟨bV, oV, none⟩) V.length cV) (.slice (some ⟨g2, 0, none⟩) L'.length cap2) (L'.set L.length len)) := hide_ ⟨HWr.out.1.other _ _ hne, by rw [List.length_set]; exact hset len⟩
        have HUe : Hid (WU wB.heap.size (.slice al L.length cl) w (wq.setCell ⟨g2, L.length, none⟩ (.int .i64 len))) := hide_ (Upd.set (WU.trans HU6.out HUr.out HVN5.out) _ _ (by
          rcases HVr.out g2 rfl with h | h
          · rcases HVN5.out g2 h with h' | h'
            · exact .inl (.inr h')
            · exact .inr h'
          · exact .inr (Nat.le_trans HU6.out.size h)))
        have HVe : Hid (VN (.slice al L.length cl) (.slice (some ⟨g2, 0, none⟩) L'.length cap2) w) := hide_ (VN.trans HVN5.out HVr.out HU6.out.size)
        clear hset hgb y0 y1 z0 z1 z2 z3
        go_wp2
        go_ret2
        exact ⟨HUe.out, by rw [HVs.out]; exact ⟨rfl, _, HWe.out, HVe.out⟩⟩
end Go.Proofs.Ytdpkmkhflgmioaa
