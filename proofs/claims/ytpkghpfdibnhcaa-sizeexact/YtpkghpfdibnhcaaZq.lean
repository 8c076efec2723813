/- size.Length: nodes of values, the small functions. -/
import Derived.Test.YtpkghpfdibnhcaaZp
import Derived.Test.YtpkghpfdibnhcaaZnv
import Derived.Lib.Bits
import Derived.Lib.BitFns
namespace Go.Proofs.Ytpkghpfdibnhcaa
open Go.RowKit
set_option linter.unusedVariables false

/-- The table's byte, and what the sum with it is. -/
theorem tab_sum (x y K : Int) (k : Nat) (hK : K = (k : Int)) (hk : k ≤ 56) (h0 : 0 ≤ y) (h1 : y ≤ 255) (h : y.toNat < Lib.len8tab.size) (hx : x.toNat < 18446744073709551616) (hy : y.toNat = x.toNat / 2 ^ k) (hb : 2 ^ k ≤ x.toNat) :
    wrap64 (K + wrap64 ((Lib.len8tab[y.toNat]'h).toNat : Int)) = (Lib.bitLen x.toNat : Int) := by
  have e1 := Lib.len8_of y h0 h1
  unfold Lib.len8 at e1
  rw [getElem?_pos Lib.len8tab y.toNat h] at e1
  simp only [Option.getD_some] at e1
  have e2 := Lib.bitLen_le8' y h0 h1
  have e3 := Lib.bitLen_shift k x.toNat hb hx
  rw [← hy] at e3
  rw [e1, e3, wrap64, wrap64]
  generalize Lib.bitLen y.toNat = q at *
  clear e3 hb hy h e1
  omega
theorem tab_one (x : Int) (h0 : 0 ≤ x) (h1 : x ≤ 255) (h : x.toNat < Lib.len8tab.size) : wrap64 (wrap64 ((Lib.len8tab[x.toNat]'h).toNat : Int)) = (Lib.bitLen x.toNat : Int) := by
  have e1 := Lib.len8_of x h0 h1
  unfold Lib.len8 at e1
  rw [getElem?_pos Lib.len8tab x.toNat h] at e1
  simp only [Option.getD_some] at e1
  have e2 := Lib.bitLen_le8' x h0 h1
  rw [e1, wrap64, wrap64]
  omega
theorem tab256 : (Lib.len8tab.size : Int) = 256 := by rw [Lib.len8tab_size]; rfl
set_option maxHeartbeats 4000000 in
set_option maxRecDepth 100000 in
theorem len64_any (x : Int) (w : World) (h0 : 0 ≤ x) (h1 : x < 18446744073709551616) :
    Calls Try.prog 84 #[.int .u64 x] w fun e w' => e = .returned (.int .i64 (Lib.bitLen x.toNat)) ∧ w = w' := by
  go_enter Try.func84, Try.ntmps84
  go_wp2
  all_goals first
    | (go_ret; refine ⟨ret_int ?_, rfl⟩)
    | (exfalso; have hs := tab256; omega)
  all_goals first
    | (refine tab_one x h0 ?_ _; omega)
    | (refine tab_sum x _ 8 8 rfl (by decide) ?_ ?_ _ (by omega) ?_ ?_ <;> omega)
    | (refine tab_sum x _ 16 16 rfl (by decide) ?_ ?_ _ (by omega) ?_ ?_ <;> omega)
    | (refine tab_sum x _ 24 24 rfl (by decide) ?_ ?_ _ (by omega) ?_ ?_ <;> omega)
    | (refine tab_sum x _ 32 32 rfl (by decide) ?_ ?_ _ (by omega) ?_ ?_ <;> omega)
    | (refine tab_sum x _ 40 40 rfl (by decide) ?_ ?_ _ (by omega) ?_ ?_ <;> omega)
    | (refine tab_sum x _ 48 48 rfl (by decide) ?_ ?_ _ (by omega) ?_ ?_ <;> omega)
    | (refine tab_sum x _ 56 56 rfl (by decide) ?_ ?_ _ (by omega) ?_ ?_ <;> omega)
theorem bitLen_64 (n : Nat) (h : n < 18446744073709551616) : Lib.bitLen n ≤ 64 := Lib.bitLen_le n 64 (by decide) h
theorem isW_yes (x : Int) (w : World) (h1 : 1 ≤ x) (h2 : x ≤ 8) :
    Calls Try.prog 96 #[.int .i64 x] w fun e w' => e = .returned (.bool true) ∧ w = w' := by
  go_enter Try.func96, Try.ntmps96
  go_wp2
  go_ret
  exact ⟨rfl, rfl⟩

theorem isW_no (x : Int) (w : World) (h : x < 1 ∨ 8 < x) :
    Calls Try.prog 96 #[.int .i64 x] w fun e w' => e = .returned (.bool false) ∧ w = w' := by
  by_cases h1 : 1 ≤ x
  · have h2 : ¬ x ≤ 8 := by omega
    go_enter Try.func96, Try.ntmps96
    go_wp2
    go_ret
    exact ⟨rfl, rfl⟩
  · go_enter Try.func96, Try.ntmps96
    go_wp2
    go_ret
    exact ⟨rfl, rfl⟩

theorem fits_no (n width : Int) (w : World) (h : width < 1 ∨ 8 < width) :
    Calls Try.prog 82 #[.int .u64 n, .int .i64 width] w fun e w' => e = .returned (.bool false) ∧ w = w' := by
  go_enter Try.func82, Try.ntmps82
  go_wp2_with (go_at_call 96; refine (isW_no _ _ h).mono ?_; rintro e w' ⟨rfl, rfl⟩)
  go_ret
  exact ⟨rfl, rfl⟩
def fitB (n width : Int) : Bool := n / 2 ^ (8 * width).toNat == 0
theorem fits_in (n width : Int) (w : World) (h1 : 1 ≤ width) (h2 : width ≤ 8) :
    Calls Try.prog 82 #[.int .u64 n, .int .i64 width] w fun e w' => e = .returned (.bool (fitB n width)) ∧ w = w' := by
  go_enter Try.func82, Try.ntmps82
  go_wp2_with (go_at_call 96; refine (isW_yes _ _ h1 h2).mono ?_; rintro e w' ⟨rfl, rfl⟩)
  go_ret
  exact ⟨rfl, rfl⟩


/-- Does a node fit a type? -/
def fitsP (x : Nv) (t : Ty) : Bool :=
  if t.k = 1 then decide (x.k = 1) && decide (x.kids = 0) && fitB x.n t.n else
  if t.k = 2 then decide (x.k = 2) && decide (x.kids = 0) && decide (x.n ≤ 1) else
  if t.k = 3 then decide (x.k = 1) && decide (x.kids = 0) else
  if t.k = 4 then decide (x.k = 3) && decide (x.n = 0) && decide (x.kids = t.n) else
  if t.k = 5 then decide (x.k = 3) && decide (x.n = 0) && decide (0 ≤ x.kids) && decide (x.kids ≤ t.n) else
  if t.k = 6 then decide (x.k = 5) && decide (x.n = 0) && (decide (x.kids = 0) || decide (x.kids = 1)) else
  if t.k = 7 then decide (x.k = 6) && decide (x.kids = 1) && (armI t.ps x.n).isSome else
  decide (x.k = 4) && decide (x.n = 0) && decide (x.kids = t.ps.length)
set_option maxRecDepth 100000 in
set_option maxHeartbeats 4000000 in
theorem fits1_any (x : Nv) (n el : Int) (ps : List Pt) (va : Option Addr) (vc : Nat) (w : World) (hn1 : 1 ≤ n) (hn2 : n ≤ 8) :
    Calls Try.prog 60 #[.agg #[.int .i64 x.k, .int .u64 x.n, .int .i64 x.kids], .agg #[.int .i64 1, .int .i64 n, .int .i64 el, .slice va ps.length vc]] w fun e w' => e = .returned (.bool (fitsP x ⟨1, n, el, ps⟩)) ∧ Below w.heap.size w w' := by
  obtain ⟨xk, xn, xd⟩ := x
  simp only
  have hB := below2 w (.cells #[.int .i64 xk, .int .u64 xn, .int .i64 xd] 66) (.cells #[.int .i64 1, .int .i64 n, .int .i64 el, .slice va ps.length vc] 43)
  obtain ⟨k1, k2⟩ := blk2 w #[.int .i64 xk, .int .u64 xn, .int .i64 xd] #[.int .i64 1, .int .i64 n, .int .i64 el, .slice va ps.length vc] 66 43
  obtain ⟨w0, hw0⟩ : ∃ wx, wx = (w.alloc (.cells #[.int .i64 xk, .int .u64 xn, .int .i64 xd] 66)).alloc (.cells #[.int .i64 1, .int .i64 n, .int .i64 el, .slice va ps.length vc] 43) := ⟨_, rfl⟩
  rw [← hw0] at hB k1 k2
  have HB := hide_ hB
  have K2 := hide_ k2
  have i0 := k1.cell 0; have i1 := k1.cell 1; have i2 := k1.cell 2
  have j0 := k2.cell 0; have j1 := k2.cell 1; have j2 := k2.cell 2; have j3 := k2.cell 3
  simp at i0 i1 i2 j0 j1 j2 j3
  clear hB k1 k2
  go_enter Try.func60, Try.ntmps60
  go_upto_region 1 with fail
  rw [← hw0]
  clear hw0
  by_cases h0 : xk = 1
  · subst h0
    by_cases h1 : xd = 0
    · subst h1
      have HV : Hid (fitsP ⟨1, xn, 0⟩ ⟨1, n, el, ps⟩ = fitB xn n) := hide_ (by simp [fitsP])
      go_wp2_with (go_at_call 82; refine (fits_in xn n _ hn1 hn2).mono ?_; rintro e w' ⟨rfl, rfl⟩)
      go_ret
      exact ⟨by rw [HV.out]; rfl, HB.out⟩
    · have c1 : (xd == 0) = false := by simpa using h1
      have HV : Hid (fitsP ⟨1, xn, xd⟩ ⟨1, n, el, ps⟩ = false) := hide_ (by simp [fitsP, h1])
      go_wp2
      go_ret
      exact ⟨by rw [HV.out]; rfl, HB.out⟩
  · have c0 : (xk == 1) = false := by simpa using h0
    have HV : Hid (fitsP ⟨xk, xn, xd⟩ ⟨1, n, el, ps⟩ = false) := hide_ (by simp [fitsP, h0])
    go_wp2
    go_ret
    exact ⟨by rw [HV.out]; rfl, HB.out⟩
set_option maxRecDepth 100000 in
set_option maxHeartbeats 4000000 in
theorem fits2_any (x : Nv) (n el : Int) (ps : List Pt) (va : Option Addr) (vc : Nat) (w : World) :
    Calls Try.prog 60 #[.agg #[.int .i64 x.k, .int .u64 x.n, .int .i64 x.kids], .agg #[.int .i64 2, .int .i64 n, .int .i64 el, .slice va ps.length vc]] w fun e w' => e = .returned (.bool (fitsP x ⟨2, n, el, ps⟩)) ∧ Below w.heap.size w w' := by
  obtain ⟨xk, xn, xd⟩ := x
  simp only
  have hB := below2 w (.cells #[.int .i64 xk, .int .u64 xn, .int .i64 xd] 66) (.cells #[.int .i64 2, .int .i64 n, .int .i64 el, .slice va ps.length vc] 43)
  obtain ⟨k1, k2⟩ := blk2 w #[.int .i64 xk, .int .u64 xn, .int .i64 xd] #[.int .i64 2, .int .i64 n, .int .i64 el, .slice va ps.length vc] 66 43
  obtain ⟨w0, hw0⟩ : ∃ wx, wx = (w.alloc (.cells #[.int .i64 xk, .int .u64 xn, .int .i64 xd] 66)).alloc (.cells #[.int .i64 2, .int .i64 n, .int .i64 el, .slice va ps.length vc] 43) := ⟨_, rfl⟩
  rw [← hw0] at hB k1 k2
  have HB := hide_ hB
  have K2 := hide_ k2
  have i0 := k1.cell 0; have i1 := k1.cell 1; have i2 := k1.cell 2
  have j0 := k2.cell 0; have j1 := k2.cell 1; have j2 := k2.cell 2; have j3 := k2.cell 3
  simp at i0 i1 i2 j0 j1 j2 j3
  clear hB k1 k2
  go_enter Try.func60, Try.ntmps60
  go_upto_region 1 with fail
  rw [← hw0]
  clear hw0
  by_cases h0 : xk = 2
  · subst h0
    by_cases h1 : xd = 0
    · subst h1
      by_cases h9 : xn ≤ 1
      · have HV : Hid (fitsP ⟨2, xn, 0⟩ ⟨2, n, el, ps⟩ = true) := hide_ (by simp [fitsP, h9])
        go_wp2
        go_ret
        exact ⟨by rw [HV.out]; rfl, HB.out⟩
      · have HV : Hid (fitsP ⟨2, xn, 0⟩ ⟨2, n, el, ps⟩ = false) := hide_ (by simp [fitsP]; omega)
        go_wp2
        go_ret
        exact ⟨by rw [HV.out]; rfl, HB.out⟩
    · have c1 : (xd == 0) = false := by simpa using h1
      have HV : Hid (fitsP ⟨2, xn, xd⟩ ⟨2, n, el, ps⟩ = false) := hide_ (by simp [fitsP, h1])
      go_wp2
      go_ret
      exact ⟨by rw [HV.out]; rfl, HB.out⟩
  · have c0 : (xk == 2) = false := by simpa using h0
    have HV : Hid (fitsP ⟨xk, xn, xd⟩ ⟨2, n, el, ps⟩ = false) := hide_ (by simp [fitsP, h0])
    go_wp2
    go_ret
    exact ⟨by rw [HV.out]; rfl, HB.out⟩
set_option maxRecDepth 100000 in
set_option maxHeartbeats 4000000 in
theorem fits3_any (x : Nv) (n el : Int) (ps : List Pt) (va : Option Addr) (vc : Nat) (w : World) :
    Calls Try.prog 60 #[.agg #[.int .i64 x.k, .int .u64 x.n, .int .i64 x.kids], .agg #[.int .i64 3, .int .i64 n, .int .i64 el, .slice va ps.length vc]] w fun e w' => e = .returned (.bool (fitsP x ⟨3, n, el, ps⟩)) ∧ Below w.heap.size w w' := by
  obtain ⟨xk, xn, xd⟩ := x
  simp only
  have hB := below2 w (.cells #[.int .i64 xk, .int .u64 xn, .int .i64 xd] 66) (.cells #[.int .i64 3, .int .i64 n, .int .i64 el, .slice va ps.length vc] 43)
  obtain ⟨k1, k2⟩ := blk2 w #[.int .i64 xk, .int .u64 xn, .int .i64 xd] #[.int .i64 3, .int .i64 n, .int .i64 el, .slice va ps.length vc] 66 43
  obtain ⟨w0, hw0⟩ : ∃ wx, wx = (w.alloc (.cells #[.int .i64 xk, .int .u64 xn, .int .i64 xd] 66)).alloc (.cells #[.int .i64 3, .int .i64 n, .int .i64 el, .slice va ps.length vc] 43) := ⟨_, rfl⟩
  rw [← hw0] at hB k1 k2
  have HB := hide_ hB
  have K2 := hide_ k2
  have i0 := k1.cell 0; have i1 := k1.cell 1; have i2 := k1.cell 2
  have j0 := k2.cell 0; have j1 := k2.cell 1; have j2 := k2.cell 2; have j3 := k2.cell 3
  simp at i0 i1 i2 j0 j1 j2 j3
  clear hB k1 k2
  go_enter Try.func60, Try.ntmps60
  go_upto_region 1 with fail
  rw [← hw0]
  clear hw0
  by_cases h0 : xk = 1
  · subst h0
    by_cases h1 : xd = 0
    · subst h1
      have HV : Hid (fitsP ⟨1, xn, 0⟩ ⟨3, n, el, ps⟩ = true) := hide_ (by simp [fitsP])
      go_wp2
      go_ret
      exact ⟨by rw [HV.out]; rfl, HB.out⟩
    · have c1 : (xd == 0) = false := by simpa using h1
      have HV : Hid (fitsP ⟨1, xn, xd⟩ ⟨3, n, el, ps⟩ = false) := hide_ (by simp [fitsP, h1])
      go_wp2
      go_ret
      exact ⟨by rw [HV.out]; rfl, HB.out⟩
  · have c0 : (xk == 1) = false := by simpa using h0
    have HV : Hid (fitsP ⟨xk, xn, xd⟩ ⟨3, n, el, ps⟩ = false) := hide_ (by simp [fitsP, h0])
    go_wp2
    go_ret
    exact ⟨by rw [HV.out]; rfl, HB.out⟩
set_option maxRecDepth 100000 in
set_option maxHeartbeats 4000000 in
theorem fits5_any (x : Nv) (n el : Int) (ps : List Pt) (va : Option Addr) (vc : Nat) (w : World) :
    Calls Try.prog 60 #[.agg #[.int .i64 x.k, .int .u64 x.n, .int .i64 x.kids], .agg #[.int .i64 5, .int .i64 n, .int .i64 el, .slice va ps.length vc]] w fun e w' => e = .returned (.bool (fitsP x ⟨5, n, el, ps⟩)) ∧ Below w.heap.size w w' := by
  obtain ⟨xk, xn, xd⟩ := x
  simp only
  have hB := below2 w (.cells #[.int .i64 xk, .int .u64 xn, .int .i64 xd] 66) (.cells #[.int .i64 5, .int .i64 n, .int .i64 el, .slice va ps.length vc] 43)
  obtain ⟨k1, k2⟩ := blk2 w #[.int .i64 xk, .int .u64 xn, .int .i64 xd] #[.int .i64 5, .int .i64 n, .int .i64 el, .slice va ps.length vc] 66 43
  obtain ⟨w0, hw0⟩ : ∃ wx, wx = (w.alloc (.cells #[.int .i64 xk, .int .u64 xn, .int .i64 xd] 66)).alloc (.cells #[.int .i64 5, .int .i64 n, .int .i64 el, .slice va ps.length vc] 43) := ⟨_, rfl⟩
  rw [← hw0] at hB k1 k2
  have HB := hide_ hB
  have K2 := hide_ k2
  have i0 := k1.cell 0; have i1 := k1.cell 1; have i2 := k1.cell 2
  have j0 := k2.cell 0; have j1 := k2.cell 1; have j2 := k2.cell 2; have j3 := k2.cell 3
  simp at i0 i1 i2 j0 j1 j2 j3
  clear hB k1 k2
  go_enter Try.func60, Try.ntmps60
  go_upto_region 1 with fail
  rw [← hw0]
  clear hw0
  by_cases h0 : xk = 3
  · subst h0
    by_cases h1 : xn = 0
    · subst h1
      by_cases h8 : 0 ≤ xd
      · by_cases h9 : xd ≤ n
        · have HV : Hid (fitsP ⟨3, 0, xd⟩ ⟨5, n, el, ps⟩ = true) := hide_ (by simp [fitsP, h8, h9])
          go_wp2
          go_ret
          exact ⟨by rw [HV.out]; rfl, HB.out⟩
        · have HV : Hid (fitsP ⟨3, 0, xd⟩ ⟨5, n, el, ps⟩ = false) := hide_ (by simp [fitsP]; omega)
          go_wp2
          go_ret
          exact ⟨by rw [HV.out]; rfl, HB.out⟩
      · have HV : Hid (fitsP ⟨3, 0, xd⟩ ⟨5, n, el, ps⟩ = false) := hide_ (by simp [fitsP]; omega)
        go_wp2
        go_ret
        exact ⟨by rw [HV.out]; rfl, HB.out⟩
    · have c1 : (xn == 0) = false := by simpa using h1
      have HV : Hid (fitsP ⟨3, xn, xd⟩ ⟨5, n, el, ps⟩ = false) := hide_ (by simp [fitsP, h1])
      go_wp2
      go_ret
      exact ⟨by rw [HV.out]; rfl, HB.out⟩
  · have c0 : (xk == 3) = false := by simpa using h0
    have HV : Hid (fitsP ⟨xk, xn, xd⟩ ⟨5, n, el, ps⟩ = false) := hide_ (by simp [fitsP, h0])
    go_wp2
    go_ret
    exact ⟨by rw [HV.out]; rfl, HB.out⟩
set_option maxRecDepth 100000 in
set_option maxHeartbeats 4000000 in
theorem fits6_any (x : Nv) (n el : Int) (ps : List Pt) (va : Option Addr) (vc : Nat) (w : World) :
    Calls Try.prog 60 #[.agg #[.int .i64 x.k, .int .u64 x.n, .int .i64 x.kids], .agg #[.int .i64 6, .int .i64 n, .int .i64 el, .slice va ps.length vc]] w fun e w' => e = .returned (.bool (fitsP x ⟨6, n, el, ps⟩)) ∧ Below w.heap.size w w' := by
  obtain ⟨xk, xn, xd⟩ := x
  simp only
  have hB := below2 w (.cells #[.int .i64 xk, .int .u64 xn, .int .i64 xd] 66) (.cells #[.int .i64 6, .int .i64 n, .int .i64 el, .slice va ps.length vc] 43)
  obtain ⟨k1, k2⟩ := blk2 w #[.int .i64 xk, .int .u64 xn, .int .i64 xd] #[.int .i64 6, .int .i64 n, .int .i64 el, .slice va ps.length vc] 66 43
  obtain ⟨w0, hw0⟩ : ∃ wx, wx = (w.alloc (.cells #[.int .i64 xk, .int .u64 xn, .int .i64 xd] 66)).alloc (.cells #[.int .i64 6, .int .i64 n, .int .i64 el, .slice va ps.length vc] 43) := ⟨_, rfl⟩
  rw [← hw0] at hB k1 k2
  have HB := hide_ hB
  have K2 := hide_ k2
  have i0 := k1.cell 0; have i1 := k1.cell 1; have i2 := k1.cell 2
  have j0 := k2.cell 0; have j1 := k2.cell 1; have j2 := k2.cell 2; have j3 := k2.cell 3
  simp at i0 i1 i2 j0 j1 j2 j3
  clear hB k1 k2
  go_enter Try.func60, Try.ntmps60
  go_upto_region 1 with fail
  rw [← hw0]
  clear hw0
  by_cases h0 : xk = 5
  · subst h0
    by_cases h1 : xn = 0
    · subst h1
      by_cases h8 : xd = 0
      · subst h8
        have HV : Hid (fitsP ⟨5, 0, 0⟩ ⟨6, n, el, ps⟩ = true) := hide_ (by simp [fitsP])
        go_wp2
        go_ret
        exact ⟨by rw [HV.out]; rfl, HB.out⟩
      · have c8 : (xd == 0) = false := by simpa using h8
        by_cases h9 : xd = 1
        · subst h9
          have HV : Hid (fitsP ⟨5, 0, 1⟩ ⟨6, n, el, ps⟩ = true) := hide_ (by simp [fitsP])
          go_wp2
          go_ret
          exact ⟨by rw [HV.out]; rfl, HB.out⟩
        · have c9 : (xd == 1) = false := by simpa using h9
          have HV : Hid (fitsP ⟨5, 0, xd⟩ ⟨6, n, el, ps⟩ = false) := hide_ (by simp [fitsP, h8, h9])
          go_wp2
          go_ret
          exact ⟨by rw [HV.out]; rfl, HB.out⟩
    · have c1 : (xn == 0) = false := by simpa using h1
      have HV : Hid (fitsP ⟨5, xn, xd⟩ ⟨6, n, el, ps⟩ = false) := hide_ (by simp [fitsP, h1])
      go_wp2
      go_ret
      exact ⟨by rw [HV.out]; rfl, HB.out⟩
  · have c0 : (xk == 5) = false := by simpa using h0
    have HV : Hid (fitsP ⟨xk, xn, xd⟩ ⟨6, n, el, ps⟩ = false) := hide_ (by simp [fitsP, h0])
    go_wp2
    go_ret
    exact ⟨by rw [HV.out]; rfl, HB.out⟩
end Go.Proofs.Ytpkghpfdibnhcaa
