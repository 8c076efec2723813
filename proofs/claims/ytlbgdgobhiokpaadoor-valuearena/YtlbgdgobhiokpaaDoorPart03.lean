import Derived.Test.YtlbgdgobhiokpaaDoorPart02
import Derived.Shelf.Strconv.Itoa0
import Derived.Shelf.Strconv.Itoa1
import Derived.Shelf.LaysM
import Derived.Shelf.Strconv.Itoa2
import Derived.Shelf.Strconv.AppendUint10
import Derived.Test.YtlbgdgobhiokpaaDoorProg
import Derived.Lib.AppendStr

/- Path. -/
namespace Go.Proofs.YtlbgdgobhiokpaaDoor
open Go.RowKit
set_option linter.unusedVariables false

theorem own_base {w : World} {B B' n : Nat} {e : TypeId} {c : Nat} {v : Value} {xs : List Value} (h : w.ownsRow B e c v n xs) (hb : B' ≤ B) : w.ownsRow B' e c v n xs := by
  refine ⟨h.1, ?_⟩
  rcases h.2 with hn | ⟨g, cap, cur, e1, hg, rest⟩
  · exact .inl hn
  · exact .inr ⟨g, cap, cur, e1, Nat.le_trans hb hg, rest⟩
theorem take_snoc (l : List Nd) (k : Nat) (h : k < l.length) : l.take (k + 1) = l.take k ++ [l.getD k nil0] := by
  rw [List.take_add_one]; simp [List.getD, List.getElem?_eq_getElem h]
set_option maxRecDepth 100000 in
set_option maxHeartbeats 4000000 in
theorem path_any (a : Option Addr) (len cap : Nat) (p : Int) (l : List Nd) (w : World) (hl : l.length = len) (hcap : len ≤ cap) (hs : len ≤ 1000000) (hcm : cap ≤ 9223372036854775807) (hr : Hid (NRow w a l)) :
    Calls Tryd.prog 19 #[.slice a len cap, .int .i64 p] w fun e w' => ∃ v, e = .returned (.tuple #[v, .int .i64 (place l p)]) ∧ Hid (w'.ownsRow w.heap.size 3 1 v (pathR l p).length (cellsL .i64 (pathR l p))) ∧ Below w.heap.size w w' := by
  go_enter Tryd.func19, Tryd.ntmps19
  go_wp2_with fail
  refine (place_any a len cap p l w hl hs hr).mono ?_; rintro e w1 ⟨rfl, hB1⟩
  by_cases h : place l p = 0
  · obtain ⟨h0, h1, h2⟩ := place_ok h
    obtain ⟨q, rfl⟩ := Int.eq_ofNat_of_zero_le h1
    have hr1 : Hid (NRow w1 a l) := hr.out.later hB1
    obtain ⟨b, off, rfl, hb, hc⟩ := hr1.out.open (by omega)
    have HC : Hid (∀ i, i < l.length → w1.cell? ⟨b, off + i * 3, none⟩ = some (.int .i64 (l.getD i nil0).1) ∧ w1.cell? ⟨b, off + i * 3 + 1, none⟩ = some (.int .u64 (l.getD i nil0).2.1) ∧ w1.cell? ⟨b, off + i * 3 + 2, none⟩ = some (.int .i64 (l.getD i nil0).2.2)) := hc
    have HR : Hid (pathR l (q : Int) = pathL (way (l.take q) [])) := by show _ = _; rw [pathR, if_pos h]; rfl
    have HP : Hid (place l (q : Int) = 0) := h
    have hbw : Hid (b < w1.heap.size) := hb
    have hq : q < len := by omega
    have HW0 : Hid (WOK l 0 []) := WOK.begin h0
    clear hc hr1 h0
    rw [h]
    clear h
    have hql : (q : Int) ≤ cap := by omega
    go_wp2_with fail
    go_loopw [7, 8, 22] (fun xp xf i wr => ∃ (k : Nat) (vp vf : Value), vp = xp ∧ vf = xf ∧ k ≤ q ∧ i = .int .i64 k ∧ Hid (WOK l k (way (l.take k) [])) ∧ Hid (W2 w1.heap.size wr vp vf (way (l.take k) [])) ∧ Hid (Below w1.heap.size w1 wr)) (fun _ _ i _ => q - (intOf i).toNat)
    case atStart => exact ⟨0, _, _, rfl, rfl, Nat.zero_le _, rfl, HW0, ⟨World.ownsRow_nil _ _ _ _, World.ownsRow_nil _ _ _ _, fun g h => by simp [Value.ownBlock] at h⟩, Below.refl _ _⟩
    case round =>
      clear HW0
      obtain ⟨k, vp, vf, rfl, rfl, hk, rfl, HW, HV, HB⟩ := hrel
      by_cases hlt : k < q
      · obtain ⟨c0, c1, c2⟩ := HC.out k (by omega)
        have d0 := (HB.out.cell (p := ⟨b, off + k * 3, none⟩) hbw.out).trans c0
        have d1 := (HB.out.cell (p := ⟨b, off + k * 3 + 1, none⟩) hbw.out).trans c1
        have d2 := (HB.out.cell (p := ⟨b, off + k * 3 + 2, none⟩) hbw.out).trans c2
        obtain ⟨HW1, x0, x1, HX⟩ := HW.out.step (by omega)
        have HS : Hid (way (l.take (k + 1)) [] = wstep (way (l.take k) []) (l.getD k nil0)) := by show _ = _; rw [take_snoc l k (by omega), way_snoc]
        have HW2 : Hid (WOK l (k + 1) (wstep (way (l.take k) []) (l.getD k nil0))) := HW1
        have HX2 : Hid ((l.getD k nil0).2.2 = 0 → ∃ Z j f T, way (l.take k) [] = Z ++ (j, f) :: T ∧ (∀ e ∈ Z, e.2 = 0) ∧ 0 < f ∧ wstep (way (l.take k) []) (l.getD k nil0) = (j + 1, f - 1) :: T) := HX
        have HBD : Hid (∀ e ∈ way (l.take k) [], 0 ≤ e.1 ∧ e.1 + e.2 < 1048576) := HW.out.bd
        have hlen : (way (l.take k) []).length ≤ 1000000 := by have := HW.out.len; omega
        clear c0 c1 c2 HW1 HX HW
        generalize l.getD k nil0 = x at *
        generalize way (l.take k) [] = S at *
        obtain ⟨xk, xn, xc⟩ := x
        simp only at d0 d1 d2 x0 x1
        have hBsz : w1.heap.size ≤ wr.heap.size := HB.out.size
        obtain ⟨wB, hwB⟩ : ∃ wB, wB = wr.alloc (.cells #[.int .i64 xk, .int .u64 xn, .int .i64 xc] 37) := ⟨_, rfl⟩
        have HBB : Hid (Below wr.heap.size wr wB) := by rw [hwB]; exact (Below.refl _ _).alloc (Nat.le_refl _) _
        have KB : Hid (Blk wB wr.heap.size 37 [.int .i64 xk, .int .u64 xn, .int .i64 xc]) := by rw [hwB]; exact Blk.newA wr _ 37
        have HVB : Hid (W2 w1.heap.size wB vp vf S) := HV.out.later HBB.out
        have hBs2 : w1.heap.size ≤ wB.heap.size := Nat.le_trans hBsz HBB.out.size
        have HB2 : Hid (Below w1.heap.size w1 wB) := HB.out.trans (HBB.out.mono HB.out.size)
        clear HV HB HBB
        go_upto_region 9 with fail
        rw [← hwB]
        clear hwB d0 d1 d2
        have c2 : wB.cell? ⟨wr.heap.size, 2, none⟩ = some (.int .i64 xc) := KB.out.cell 2
        by_cases hx : 0 < xc
        · obtain ⟨gp, cp, w2, gf, cf, w3, r1, r2, HV3, HB3, HB4, hkeep⟩ := HVB.out.push (xc - 1) hlen hBs2
          have d2 : w2.cell? ⟨wr.heap.size, 2, none⟩ = some (.int .i64 xc) := (hkeep _ _ _ (by decide) KB.out).cell 2
          have HV4 : Hid _ := HV3
          have HB5 : Hid (Below w1.heap.size w1 w3) := HB2.out.trans HB4
          have HS2 : Hid (way (l.take (k + 1)) [] = (0, xc - 1) :: S) := by have := HS.out; rw [wstep, if_pos hx] at this; exact this
          have HW3 : Hid (WOK l (k + 1) (way (l.take (k + 1)) [])) := by rw [HS.out]; exact HW2.out
          have R1 : Hid _ := r1
          have R2 : Hid _ := r2
          clear HV3 HB3 HB4 hkeep HVB HX2 KB HB2 HW2 HS r1 r2
          go_wp2_with (first | (at_builtin; have _t := R1; refine wpList_append_run rfl (.tmp 29) (.tmp 30) 43 43 rfl rfl rfl R1.out ?_; clear R1) | (at_builtin; have _t := R2; refine wpList_append_run rfl (.tmp 32) (.tmp 36) 43 43 rfl rfl rfl R2.out ?_; clear R2))
          go_roundw
          case rel => exact ⟨k + 1, _, _, rfl, rfl, by omega, by go_num, HW3, by rw [HS2.out]; exact HV4.out, HB5⟩
          case measure => simp [intOf]; omega
        · obtain ⟨Z, j, f, T, rfl, hZ, hf, hS⟩ := HX2.out (by show xc = 0; omega)
          obtain ⟨gp, cp, gf, cf, rfl, rfl, bp, bf, hne, np, nf, mp, mf, zp, zf, kp, kf, HV3⟩ := HVB.out.back
          have HV4 : Hid _ := HV3
          have HS2 : Hid (way (l.take (k + 1)) [] = (j + 1, f - 1) :: T) := by have := HS.out; rw [hS] at this; exact this
          have HW3 : Hid (WOK l (k + 1) (way (l.take (k + 1)) [])) := by rw [HS.out]; exact HW2.out
          have HF : Hid (∀ i, i < Z.length + T.length + 1 → wB.cell? ⟨gf, i, none⟩ = some (.int .i64 ((leftL (Z ++ (j, f) :: T)).getD i 0))) := kf
          have HB5 : Hid (Below w1.heap.size w1 ((wB.setCell ⟨gp, T.length, none⟩ (.int .i64 (j + 1))).setCell ⟨gf, T.length, none⟩ (.int .i64 (f - 1)))) := (HB2.out.setCell bp _).setCell bf _
          have hzt : Z.length + T.length + 1 ≤ 1000000 := by simp at hlen; omega
          unfold maxLen at mp mf
          have hjb := HBD.out (j, f) (by simp)
          simp only at hjb
          clear HV3 HVB HX2 KB HW2 HS hS kf HB2 hlen
          go_wp2_with fail
          go_loopw [11] (fun i wx => ∃ (y : Nat), T.length ≤ y ∧ y < Z.length + T.length + 1 ∧ i = .int .i64 y ∧ wB = wx) (fun i _ => (intOf i).toNat)
          case atStart => exact ⟨Z.length + T.length, by omega, by omega, by go_num, rfl⟩
          case round =>
            obtain ⟨y, hy0, hy1, rfl, rfl⟩ := hrel
            have ky := HF.out y hy1
            by_cases hy : y = T.length
            · subst hy
              rw [left_at] at ky
              have hf0 : ¬ f = 0 := by omega
              clear HF
              have k2 : (wB.setCell ⟨gp, T.length, none⟩ (.int .i64 (j + 1))).cell? ⟨gf, T.length, none⟩ = some (.int .i64 f) := by
                rw [World.cell?_setCell_far _ _ _ _ hne]; exact ky
              have z2 : (wB.setCell ⟨gp, T.length, none⟩ (.int .i64 (j + 1))).frozen? ⟨gf, T.length, none⟩ = false := by rw [World.frozen?_setCell]; exact zf
              go_wp2_with fail
              go_region
              go_wp2
              go_roundw
              case rel => exact ⟨k + 1, _, _, rfl, rfl, by omega, by go_num, HW3, by rw [HS2.out]; exact HV4.out.later (Below.refl _ _).drew, HB5.out.drew⟩
              case measure => simp [intOf]; omega
            · rw [left_zero Z T j f hZ y (by omega) hy1] at ky
              have hy2 : (1 : Int) ≤ y := by omega
              go_wp2
              go_roundw
              case rel => exact ⟨y - 1, by omega, by omega, by go_num, trivial⟩
              case measure => simp [intOf]; omega
      · obtain rfl : k = q := by omega
        go_wp2
        go_ret2
        exact ⟨_, by rw [HP.out]; rfl, by rw [HR.out, pathL_len]; exact own_base HV.out.p hB1.size, hB1.trans (HB.out.mono hB1.size)⟩
  · go_wp2
    go_ret2
    exact ⟨_, rfl, by rw [pathR, if_neg h]; exact World.ownsRow_nil _ _ _ _, hB1⟩
end Go.Proofs.YtlbgdgobhiokpaaDoor

/-
  DERIVED: THE SHELF's CONTRACTS AT THIS DUMP, IN PLAIN WORDS (tools/lay-plain.mjs out of 'TrydShelf.lean', which tools/lay-shelf.mjs wrote): THE SAME DECLARATIONS UNDER THE SAME NAMES: 'import', 'namespace', 'open', 'def', 'theorem' AND NOTHING ELSE: no command of the shelf's: FOR A HAND-IN. Each laying: the table of numbers ('.._ren') and one theorem, a field a fact of the dump's own or the kernel's comparison; each contract: ONE APPLICATION.
-/
namespace Go.Proofs
open Go.Shelf
def Tryd.lays129_ren : Go.Shelf.Ren := ⟨fun | 129 => 89 | n => n, fun | 53 => 35 | 3 => 3 | 4 => 4 | 46 => 158 | 5 => 5 | 9 => 9 | n => n, fun | n => n⟩
theorem Tryd.lays129 : Go.Proofs.Lays.n129 Tryd.prog Tryd.lays129_ren := {
  mixed := by kernel_rfl
  f129 := Tryd.func89.trans (congrArg some (by kernel_rfl))
  t3 := Tryd.underlying3
  a3 := Tryd.isAgg3
  z3 := Tryd.sizeOf3
  v3 := Tryd.zeroValue3
  t4 := Tryd.underlying4
  a4 := Tryd.isAgg4
  z4 := Tryd.sizeOf4
  v4 := Tryd.zeroValue4
  t5 := Tryd.underlying5
  a5 := Tryd.isAgg5
  z5 := Tryd.sizeOf5
  v5 := Tryd.zeroValue5
  t9 := Tryd.underlying9
  a9 := Tryd.isAgg9
  z9 := Tryd.sizeOf9
  v9 := Tryd.zeroValue9
  t46 := Tryd.underlying158
  a46 := Tryd.isAgg158
  z46 := Tryd.sizeOf158
  v46 := Tryd.zeroValue158
  t53 := Tryd.underlying35
  a53 := Tryd.isAgg35
  z53 := Tryd.sizeOf35
  v53 := Tryd.zeroValue35 }
/-- bits.Len64: "Len64 returns the minimum number of bits required to represent x; the result is 0 for x == 0.": IT RETURNS 'Lib.bitLen x'; the world is as it was. ('h0', 'h1': x is a uint64.) (LAID: no walk: one application.) -/
theorem Tryd.bits_Len64 (x : Int) (w : World) (h0 : 0 ≤ x) (h1 : x ≤ 18446744073709551615) :
    Calls Tryd.prog 89 #[.int .u64 x] w fun e w' => e = .returned (.int .i64 (Lib.bitLen x.toNat)) ∧ w' = w := Any.bits_Len64 Tryd.lays129 x w h0 h1
def Tryd.lays317_ren : Go.Shelf.Ren := ⟨fun | 317 => 88 | n => n, fun | 3 => 3 | 46 => 158 | n => n, fun | n => n⟩
theorem Tryd.lays317 : Go.Proofs.Lays.n317 Tryd.prog Tryd.lays317_ren := {
  mixed := by kernel_rfl
  f317 := Tryd.func88.trans (congrArg some (by kernel_rfl))
  t3 := Tryd.underlying3
  a3 := Tryd.isAgg3
  z3 := Tryd.sizeOf3
  v3 := Tryd.zeroValue3
  t46 := Tryd.underlying158
  a46 := Tryd.isAgg158
  z46 := Tryd.sizeOf158
  v46 := Tryd.zeroValue158 }
open Go.Lib in
/-- internal/strconv.log10Pow2: "log10Pow2(x) returns ⌊log₁₀ 2**x⌋ = ⌊x * log₁₀ 2⌋.": '(x * 78913) >> 18', at an x up to 64 (a length in bits). The world is as it was. (LAID: no walk: one application.) -/
theorem Tryd.internal_strconv_log10Pow2 (x : Nat) (h : x ≤ 64) (w : World) :
    Calls Tryd.prog 88 #[.int .i64 x] w fun e w' => e = .returned (.int .i64 (Lib.l10 x)) ∧ w' = w := Any.internal_strconv_log10Pow2 Tryd.lays317 x h w
def Tryd.lays318_ren : Go.Shelf.Ren := ⟨fun | 318 => 90 | n => n, fun | 3 => 3 | 4 => 4 | n => n, fun | n => n⟩
theorem Tryd.lays318 : Go.Proofs.Lays.n318 Tryd.prog Tryd.lays318_ren := {
  mixed := by kernel_rfl
  f318 := Tryd.func90.trans (congrArg some (by kernel_rfl))
  t3 := Tryd.underlying3
  a3 := Tryd.isAgg3
  z3 := Tryd.sizeOf3
  v3 := Tryd.zeroValue3
  t4 := Tryd.underlying4
  a4 := Tryd.isAgg4
  z4 := Tryd.sizeOf4
  v4 := Tryd.zeroValue4 }
open Go.Lib in
/-- internal/strconv.bool2: "bool2 converts b to an integer: 1 for true, 0 for false." The world is as it was. (LAID: no walk: one application.) -/
theorem Tryd.internal_strconv_bool2_int (b : Bool) (w : World) :
    Calls Tryd.prog 90 #[.bool b] w fun e w' => e = .returned (.int .i64 (if b then 1 else 0)) ∧ w' = w := Any.internal_strconv_bool2_int Tryd.lays318 b w
def Tryd.lays283_ren : Go.Shelf.Ren := ⟨fun | 283 => 78 | n => n, fun | 3 => 3 | 9 => 9 | 4 => 4 | n => n, fun | n => n⟩
theorem Tryd.lays283 : Go.Proofs.Lays.n283 Tryd.prog Tryd.lays283_ren := {
  mixed := by kernel_rfl
  f283 := Tryd.func78.trans (congrArg some (by kernel_rfl))
  t3 := Tryd.underlying3
  a3 := Tryd.isAgg3
  z3 := Tryd.sizeOf3
  v3 := Tryd.zeroValue3
  t4 := Tryd.underlying4
  a4 := Tryd.isAgg4
  z4 := Tryd.sizeOf4
  v4 := Tryd.zeroValue4
  t9 := Tryd.underlying9
  a9 := Tryd.isAgg9
  z9 := Tryd.sizeOf9
  v9 := Tryd.zeroValue9 }
open Go.Lib in
/-- internal/strconv.small: "small returns the string for an i with 0 <= i < nSmalls.": i's decimal numeral. The world is as it was. (LAID: no walk: one application.) -/
theorem Tryd.internal_strconv_small (i : Nat) (h : i < 100) (w : World) :
    Calls Tryd.prog 78 #[.int .i64 i] w fun e w' => e = .returned (.string ⟨(Lib.decDigits i).toArray⟩) ∧ w' = w := Any.internal_strconv_small Tryd.lays283 i h w
def Tryd.laysM284_ren : Go.Shelf.Ren := ⟨fun | 284 => 79 | 129 => 89 | 317 => 88 | 318 => 90 | n => n, fun | 53 => 35 | 3 => 3 | 212 => 154 | 0 => 0 | 4 => 4 | 46 => 158 | 5 => 5 | 9 => 9 | n => n, fun | 17 => 0 | n => n⟩
theorem Tryd.laysM284 : Go.Proofs.LaysM.n284 Tryd.prog Tryd.laysM284_ren := {
  mixed := by kernel_rfl
  f129 := Tryd.func89.trans (congrArg some (by kernel_rfl))
  f284 := Tryd.func79.trans (congrArg some (by kernel_rfl))
  f317 := Tryd.func88.trans (congrArg some (by kernel_rfl))
  f318 := Tryd.func90.trans (congrArg some (by kernel_rfl))
  t0 := Tryd.underlying0
  a0 := Tryd.isAgg0
  z0 := Tryd.sizeOf0
  v0 := Tryd.zeroValue0
  t3 := Tryd.underlying3
  a3 := Tryd.isAgg3
  z3 := Tryd.sizeOf3
  v3 := Tryd.zeroValue3
  t4 := Tryd.underlying4
  a4 := Tryd.isAgg4
  z4 := Tryd.sizeOf4
  v4 := Tryd.zeroValue4
  t5 := Tryd.underlying5
  a5 := Tryd.isAgg5
  z5 := Tryd.sizeOf5
  v5 := Tryd.zeroValue5
  t9 := Tryd.underlying9
  a9 := Tryd.isAgg9
  z9 := Tryd.sizeOf9
  v9 := Tryd.zeroValue9
  t46 := Tryd.underlying158
  a46 := Tryd.isAgg158
  z46 := Tryd.sizeOf158
  v46 := Tryd.zeroValue158
  t53 := Tryd.underlying35
  a53 := Tryd.isAgg35
  z53 := Tryd.sizeOf35
  v53 := Tryd.zeroValue35
  t212 := Tryd.underlying154
  a212 := Tryd.isAgg154
  z212 := Tryd.sizeOf154
  v212 := Tryd.zeroValue154
  g17 := by kernel_rfl
  i0 := by kernel_rfl
  i3 := by kernel_rfl
  i4 := by kernel_rfl
  i5 := by kernel_rfl
  i9 := by kernel_rfl
  i46 := by kernel_rfl
  i53 := by kernel_rfl
  i212 := by kernel_rfl
  m17 := by kernel_rfl }
open Go.Lib in
/-- internal/strconv.numDigits, at a d that is not 0: THE NUMBER OF d's DECIMAL DIGITS. The world is as it was. (LAID: no walk: one application.) -/
theorem Tryd.internal_strconv_numDigits (u : Nat) (h1 : 1 ≤ u) (h2 : u < 18446744073709551616) (w : World) (htab : Lib.TabIs Tryd.prog w "internal/strconv.uint64pow10" .u64 Lib.pow10Tab) :
    Calls Tryd.prog 79 #[.int .u64 u] w fun e w' => e = .returned (.int .i64 (Lib.nDigits u)) ∧ w' = w := Any.internal_strconv_numDigits Tryd.laysM284 u h1 h2 w htab
def Tryd.lays285_ren : Go.Shelf.Ren := ⟨fun | 285 => 80 | n => n, fun | 37 => 41 | 53 => 35 | 3 => 3 | 4 => 4 | 51 => 155 | 9 => 9 | 5 => 5 | 0 => 0 | n => n, fun | n => n⟩
theorem Tryd.lays285 : Go.Proofs.Lays.n285 Tryd.prog Tryd.lays285_ren := {
  mixed := by kernel_rfl
  f285 := Tryd.func80.trans (congrArg some (by kernel_rfl))
  t0 := Tryd.underlying0
  a0 := Tryd.isAgg0
  z0 := Tryd.sizeOf0
  v0 := Tryd.zeroValue0
  t3 := Tryd.underlying3
  a3 := Tryd.isAgg3
  z3 := Tryd.sizeOf3
  v3 := Tryd.zeroValue3
  t4 := Tryd.underlying4
  a4 := Tryd.isAgg4
  z4 := Tryd.sizeOf4
  v4 := Tryd.zeroValue4
  t5 := Tryd.underlying5
  a5 := Tryd.isAgg5
  z5 := Tryd.sizeOf5
  v5 := Tryd.zeroValue5
  t9 := Tryd.underlying9
  a9 := Tryd.isAgg9
  z9 := Tryd.sizeOf9
  v9 := Tryd.zeroValue9
  t37 := Tryd.underlying41
  a37 := Tryd.isAgg41
  z37 := Tryd.sizeOf41
  v37 := Tryd.zeroValue41
  t51 := Tryd.underlying155
  a51 := Tryd.isAgg155
  z51 := Tryd.sizeOf155
  v51 := Tryd.zeroValue155
  t53 := Tryd.underlying35
  a53 := Tryd.isAgg35
  z53 := Tryd.sizeOf35
  v53 := Tryd.zeroValue35 }
open Go.RowKit Go.Sort Go.Lib in
/-- internal/strconv.formatBase10: "formatBase10 formats the decimal representation of u into a. The caller is responsible for ensuring that a is big enough to hold u. If a is too big, leading zeros will be filled in as needed.": THE ROW HOLDS u's DIGITS ('FmtInv .. 0 ..': every place t holds 'dg u (len - 1 - t)'); all else is as it was but for the count of draws. (LAID: no walk: one application.) -/
theorem Tryd.internal_strconv_formatBase10 (blk off cap : Nat) (u : Nat) (d : Array UInt8) (w : World) (hH : Holds (fun (b : UInt8) => Value.int .u8 (b.toNat : Int)) w blk off d) (hu : u < 10 ^ d.size) (hu64 : u < 18446744073709551616) (hsz : d.size < 4611686018427387904) :
    Calls Tryd.prog 80 #[.slice (some ⟨blk, off, none⟩) d.size cap, .int .u64 u] w fun e w' =>
      e = .returned (.tuple #[]) ∧ ∃ (n v' : Nat) (dk : Array UInt8), w' = (putRow (fun (b : UInt8) => Value.int .u8 (b.toNat : Int)) w blk off dk).drewN n ∧ FmtInv d.size u 0 v' dk := Any.internal_strconv_formatBase10 Tryd.lays285 blk off cap u d w hH hu hu64 hsz
def Tryd.laysM288_ren : Go.Shelf.Ren := ⟨fun | 288 => 71 | 283 => 78 | 284 => 79 | 285 => 80 | 286 => 81 | 129 => 89 | 317 => 88 | 318 => 90 | 319 => 91 | 320 => 92 | 337 => 94 | 338 => 95 | n => n, fun | 37 => 41 | 53 => 35 | 3 => 3 | 4 => 4 | 9 => 9 | 171 => 144 | 0 => 0 | 173 => 147 | 212 => 154 | 51 => 155 | 5 => 5 | 20 => 20 | 213 => 156 | 46 => 158 | 232 => 161 | 233 => 162 | n => n, fun | 17 => 0 | 18 => 1 | 19 => 2 | n => n⟩
theorem Tryd.laysM288 : Go.Proofs.LaysM.n288 Tryd.prog Tryd.laysM288_ren := {
  mixed := by kernel_rfl
  f129 := Tryd.func89.trans (congrArg some (by kernel_rfl))
  f283 := Tryd.func78.trans (congrArg some (by kernel_rfl))
  f284 := Tryd.func79.trans (congrArg some (by kernel_rfl))
  f285 := Tryd.func80.trans (congrArg some (by kernel_rfl))
  f286 := Tryd.func81.trans (congrArg some (by kernel_rfl))
  f288 := Tryd.func71.trans (congrArg some (by kernel_rfl))
  f317 := Tryd.func88.trans (congrArg some (by kernel_rfl))
  f318 := Tryd.func90.trans (congrArg some (by kernel_rfl))
  f319 := Tryd.func91.trans (congrArg some (by kernel_rfl))
  f320 := Tryd.func92.trans (congrArg some (by kernel_rfl))
  f337 := Tryd.func94.trans (congrArg some (by kernel_rfl))
  f338 := Tryd.func95.trans (congrArg some (by kernel_rfl))
  t0 := Tryd.underlying0
  a0 := Tryd.isAgg0
  z0 := Tryd.sizeOf0
  v0 := Tryd.zeroValue0
  t3 := Tryd.underlying3
  a3 := Tryd.isAgg3
  z3 := Tryd.sizeOf3
  v3 := Tryd.zeroValue3
  t4 := Tryd.underlying4
  a4 := Tryd.isAgg4
  z4 := Tryd.sizeOf4
  v4 := Tryd.zeroValue4
  t5 := Tryd.underlying5
  a5 := Tryd.isAgg5
  z5 := Tryd.sizeOf5
  v5 := Tryd.zeroValue5
  t9 := Tryd.underlying9
  a9 := Tryd.isAgg9
  z9 := Tryd.sizeOf9
  v9 := Tryd.zeroValue9
  t20 := Tryd.underlying20
  a20 := Tryd.isAgg20
  z20 := Tryd.sizeOf20
  v20 := Tryd.zeroValue20
  t37 := Tryd.underlying41
  a37 := Tryd.isAgg41
  z37 := Tryd.sizeOf41
  v37 := Tryd.zeroValue41
  t46 := Tryd.underlying158
  a46 := Tryd.isAgg158
  z46 := Tryd.sizeOf158
  v46 := Tryd.zeroValue158
  t51 := Tryd.underlying155
  a51 := Tryd.isAgg155
  z51 := Tryd.sizeOf155
  v51 := Tryd.zeroValue155
  t53 := Tryd.underlying35
  a53 := Tryd.isAgg35
  z53 := Tryd.sizeOf35
  v53 := Tryd.zeroValue35
  t171 := Tryd.underlying144
  a171 := Tryd.isAgg144
  z171 := Tryd.sizeOf144
  v171 := Tryd.zeroValue144
  t173 := Tryd.underlying147
  a173 := Tryd.isAgg147
  z173 := Tryd.sizeOf147
  v173 := Tryd.zeroValue147
  t212 := Tryd.underlying154
  a212 := Tryd.isAgg154
  z212 := Tryd.sizeOf154
  v212 := Tryd.zeroValue154
  t213 := Tryd.underlying156
  a213 := Tryd.isAgg156
  z213 := Tryd.sizeOf156
  t232 := Tryd.underlying161
  a232 := Tryd.isAgg161
  z232 := Tryd.sizeOf161
  v232 := Tryd.zeroValue161
  t233 := Tryd.underlying162
  a233 := Tryd.isAgg162
  z233 := Tryd.sizeOf162
  v233 := Tryd.zeroValue162
  g17 := by kernel_rfl
  g18 := by kernel_rfl
  g19 := by kernel_rfl
  i0 := by kernel_rfl
  i3 := by kernel_rfl
  i4 := by kernel_rfl
  i5 := by kernel_rfl
  i9 := by kernel_rfl
  i20 := by kernel_rfl
  i37 := by kernel_rfl
  i46 := by kernel_rfl
  i51 := by kernel_rfl
  i53 := by kernel_rfl
  i171 := by kernel_rfl
  i173 := by kernel_rfl
  i212 := by kernel_rfl
  i232 := by kernel_rfl
  i233 := by kernel_rfl
  m17 := by kernel_rfl
  m18 := by kernel_rfl
  m19 := by kernel_rfl }
open Go.RowKit Go.Sort Go.Lib in
/-- internal/strconv.AppendUint(dst, i, 10), i BELOW 100: WHAT COMES BACK OWNS dst's CELLS AND, BEHIND THEM, i's DECIMAL NUMERAL. No table is read. Below the call's own blocks nothing has turned. (LAID: no walk: one application.) -/
theorem Tryd.internal_strconv_AppendUint_10_small (B n u : Nat) (hu : u < 100) (sv : Value) (xs : List Value) (w : World) (hown : w.ownsRow B 5 1 sv n xs) (hBw : B ≤ w.heap.size) (hlim : n + 20 ≤ 140737488355328) :
    Calls Tryd.prog 71 #[sv, .int .u64 u, .int .i64 10] w fun e w' => ∃ v', e = .returned v' ∧ w'.ownsRow B 5 1 v' (n + (Lib.decDigits u).length) (xs ++ Lib.byteCells (Lib.decDigits u)) ∧ Below B w w' ∧ Lib.OthersKept 5 none w w' := Any.internal_strconv_AppendUint_10_small Tryd.laysM288 B n u hu sv xs w hown hBw hlim
open Go.RowKit Go.Sort Go.Lib in
/-- internal/strconv.AppendUint(dst, i, 10), i FROM 100 ON: likewise; the digits are laid in an array of the call's own and appended. (LAID: no walk: one application.) -/
theorem Tryd.internal_strconv_AppendUint_10_big (B n u : Nat) (hu : 100 ≤ u) (hu64 : u < 18446744073709551616) (sv : Value) (xs : List Value) (w : World) (hown : w.ownsRow B 5 1 sv n xs) (hBw : B ≤ w.heap.size) (hlim : n + 20 ≤ 140737488355328) (htab : Lib.TabIs Tryd.prog w "internal/strconv.uint64pow10" .u64 Lib.pow10Tab) :
    Calls Tryd.prog 71 #[sv, .int .u64 u, .int .i64 10] w fun e w' => ∃ v', e = .returned v' ∧ w'.ownsRow B 5 1 v' (n + (Lib.decDigits u).length) (xs ++ Lib.byteCells (Lib.decDigits u)) ∧ Below B w w' ∧ Lib.OthersKept 5 none w w' := Any.internal_strconv_AppendUint_10_big Tryd.laysM288 B n u hu hu64 sv xs w hown hBw hlim htab
end Go.Proofs

/- Rows of structs; texts that grow; a node's text up to its first kid's. -/
namespace Go.Proofs.YtlbgdgobhiokpaaDoor
open Go.RowKit
set_option linter.unusedVariables false

section
variable {w w' : World} {B n c : Nat} {e : TypeId} {v : Value} {xs : List Value}
theorem ownS_blk (h : w.ownsRow B e c v n xs) (hn : 0 < n) :
    ∃ g cap ys, v = .slice (some ⟨g, 0, none⟩) n cap ∧ B ≤ g ∧ n ≤ cap ∧ cap ≤ maxLen ∧ ys.length = cap * c ∧ ys.take (n * c) = xs ∧ Blk w g e ys := by
  rcases h.2 with ⟨_, h0⟩ | ⟨g, cap, cur, rfl, hb, hg, hnc, hcm, hs, ht⟩
  · omega
  · exact ⟨g, cap, cur.toList, rfl, hb, hnc, hcm, by simpa using hs, by simpa using ht, by unfold Blk; rw [Array.toArray_toList]; exact hg⟩
theorem ownS_of_blk {g cap : Nat} {ys : List Value} (h : Blk w g e ys) (hb : B ≤ g) (hl : ys.length = cap * c) (hn : n ≤ cap) (hm : cap ≤ maxLen) : w.ownsRow B e c (.slice (some ⟨g, 0, none⟩) n cap) n (ys.take (n * c)) :=
  ⟨by rw [List.length_take, hl]; exact Nat.min_eq_left (Nat.mul_le_mul_right c hn), .inr ⟨g, cap, ys.toArray, rfl, hb, h, hn, hm, by simp [hl], by simp⟩⟩
theorem ownS_upd {S : Nat → Prop} (h : w.ownsRow B e c v n xs) (hu : Upd S w w') (hs : ∀ k, v.ownBlock = some k → ¬ S k) : w'.ownsRow B e c v n xs := by
  refine ⟨h.1, ?_⟩
  rcases h.2 with hn | ⟨g, cap, cur, rfl, hb, hg, rest⟩
  · exact .inl hn
  · exact .inr ⟨g, cap, cur, rfl, hb, (hu.block g (Array.getElem?_eq_some_iff.1 hg).1 (hs g rfl)).trans hg, rest⟩
theorem ownS_type (h : w.ownsRow B e c v n xs) {k : Nat} (hk : v.ownBlock = some k) : ∃ ys, Blk w k e ys := by
  rcases h.2 with ⟨rfl, _⟩ | ⟨g, cap, cur, rfl, hb, hg, _⟩
  · simp [Value.ownBlock] at hk
  · obtain rfl : g = k := own_is hk
    exact ⟨cur.toList, by unfold Blk; rw [Array.toArray_toList]; exact hg⟩
theorem blk_type {g : Nat} {t t' : TypeId} {xs ys : List Value} (h : Blk w g t xs) (k : Blk w g t' ys) : t = t' := by
  unfold Blk at h k
  rw [h] at k
  injection k with k
  injection k with _ k
/-- append(v, x), x a struct written out. -/
theorem run_pushS {P : Program} {t : TypeId} {z : Value} {bytes : Nat} (ht : P.underlying t = some (.slice e)) (hinfo : (P.info? e).map (fun i => (i.zero, i.size, i.bytes)) = some (some z, c, bytes)) (hzs : z.cells.size = c) (hc : 0 < c)
    (w : World) (ty : Nat) (hown : w.ownsRow B e c v n xs) (news : List Value) (hl : news.length = c) (hx : ∀ u ∈ news, u.oneCell' = true) (h63 : n + 1 ≤ maxLen) (hb : (n + 1) * bytes ≤ 140737488355328) (hbase : B ≤ w.heap.size) :
    ∃ g cap w', (Builtin.append_ #[t, t] ty #[v, .slice (some ⟨w.heap.size, 0, none⟩) 1 1]).run P (w.alloc (.cells news.toArray e)) = .ok (.slice (some ⟨g, 0, none⟩) (n + 1) cap) w' ∧
      w'.ownsRow B e c (.slice (some ⟨g, 0, none⟩) (n + 1) cap) (n + 1) (xs ++ news) ∧ Upd (fun k => v.ownBlock = some k) w w' ∧ (v.ownBlock = some g ∨ w.heap.size ≤ g) := by
  obtain ⟨i0, hi, hz0, hz1, hz2⟩ := info_parts hinfo
  have hsz : (w.alloc (.cells news.toArray e)).heap.size = w.heap.size + 1 := by simp
  obtain ⟨g, cap, w', h1, h2, h3, h4, h5⟩ := run_append_lies (P := P) (w.alloc (.cells news.toArray e)) t ty B e i0 z c bytes ht hi hz0 hz1 hz2 hzs hc v n xs (hown.alloc _) ⟨w.heap.size, 0, none⟩ 1 1 news (by omega)
    (fun j u hj => by rw [add_none, Nat.zero_add, (Blk.new w news e).cell]; exact hj)
    hx (by decide) h63 hb (by omega) _ rfl
  refine ⟨g, cap, w', h1, h2, ((Upd.refl _ w).alloc _).grown h3 (fun k hk => .inl hk), ?_⟩
  rcases h4 with h4 | h4
  · exact .inl h4
  · exact .inr (by omega)
end

/-! ### Texts -/
/-- Below B nothing has turned, above it nothing but bytes. -/
structure Kept (B : Nat) (w w' : World) : Prop where
  bel : Below B w w'
  oth : ∀ g t xs, t ≠ 5 → Blk w g t xs → Blk w' g t xs
section
variable {B : Nat} {w w' w1 : World} {v : Value} {l r : List Int}
theorem Kept.refl (B : Nat) (w : World) : Kept B w w := ⟨Below.refl _ _, fun _ _ _ _ h => h⟩
theorem Kept.trans (h : Kept B w w1) (k : Kept B w1 w') : Kept B w w' := ⟨h.bel.trans k.bel, fun g t xs ht hb => k.oth g t xs ht (h.oth g t xs ht hb)⟩
theorem Kept.alloc (h : Kept B w w1) (hB : B ≤ w1.heap.size) (o : Obj) : Kept B w (w1.alloc o) := ⟨h.bel.alloc hB o, fun g t xs ht hb => (h.oth g t xs ht hb).alloc o⟩
theorem Kept.drew (h : Kept B w w1) : Kept B w w1.drew := ⟨h.bel.drew, h.oth⟩
theorem Kept.of_below (hB : B ≤ w.heap.size) (h : Below w.heap.size w w') : Kept B w w' := ⟨h.mono hB, fun g t xs ht hb => hb.later h⟩
/-- A text of the call's own. -/
def Txt (B : Nat) (w : World) (v : Value) (l : List Int) : Prop := w.ownsRow B 5 1 v l.length (cellsL .u8 l)
theorem Txt.nil (B : Nat) (w : World) : Txt B w (.slice none 0 0) [] := World.ownsRow_nil _ _ _ _
theorem Txt.alloc (h : Txt B w v l) (o : Obj) : Txt B (w.alloc o) v l := World.ownsRow.alloc h o
theorem Txt.later (h : Txt B w v l) (hB : Below w.heap.size w w') : Txt B w' v l := ownS_upd h (Upd.of_below (S := fun _ => False) hB) (fun _ _ h => h)
theorem E41 : Elem Tryd.prog 41 5 .u8 1 := ⟨Tryd.underlying41, Tryd.underlying5, by kernel_rfl⟩
theorem kept_upd (h : Txt B w v l) (hB : B ≤ w.heap.size) (hu : Upd (fun k => v.ownBlock = some k) w w') : Kept B w w' := by
  refine ⟨hu.below B hB (fun k hk => (h.lt k hk).1), fun g t xs ht hb => hb.upd hu fun hk => ?_⟩
  obtain ⟨ys, hy⟩ := ownS_type h hk
  exact ht (blk_type hb hy)
theorem run_byte (h : Txt B w v l) (x : Int) (hl : l.length ≤ 1000000000) (hB : B ≤ w.heap.size) :
    ∃ v' w', (Builtin.append_ #[41, 41] 41 #[v, .slice (some ⟨w.heap.size, 0, none⟩) 1 1]).run Tryd.prog (w.alloc (.cells #[.int .u8 x] 5)) = .ok v' w' ∧ Txt B w' v' (l ++ [x]) ∧ Kept B w w' := by
  obtain ⟨g, cap, w', r1, o1, u1, l1⟩ := run_push E41 w 41 B v l.length l h x (by unfold maxLen; omega) (by omega) hB
  exact ⟨_, w', r1, by unfold Txt; rw [List.length_append]; exact o1, kept_upd h hB u1⟩
theorem run_str (h : Txt B w v l) (s : ByteArray) (r : List Int) (hs : Lib.strCells s = cellsL .u8 r) (hr : r.length ≤ 1000) (hl : l.length ≤ 1000000000) (hB : B ≤ w.heap.size) :
    ∃ v' w', (Builtin.append_ #[41, 9] 41 #[v, .string s]).run Tryd.prog w = .ok v' w' ∧ Txt B w' v' (l ++ r) ∧ Kept B w w' := by
  have hsz : s.size = r.length := by have := congrArg List.length hs; rw [Lib.strCells_length, cellsL_length] at this; exact this
  obtain ⟨i0, hi, hz0, hz1, hz2⟩ := info_parts E41.info
  obtain ⟨v', w', h1, h2, h3, -⟩ := Lib.run_append_own_string (P := Tryd.prog) w B 41 9 41 5 i0 Tryd.underlying41 Tryd.underlying9 hi hz0 hz1 hz2 v l.length _ h s (by rw [hsz]; unfold maxLen; omega) (by rw [hsz]; omega) hB
  refine ⟨v', w', h1, ?_, kept_upd h hB ((Upd.refl _ w).grown h3 (fun k hk => .inl hk))⟩
  rw [hs, ← cellsL_append, hsz] at h2
  unfold Txt
  rw [List.length_append]
  exact h2
end

/-! ### Digits -/
def digF : Nat → Nat → List Int
  | 0, u => [48 + (u : Int)]
  | f + 1, u => if u < 10 then [48 + (u : Int)] else digF f (u / 10) ++ [48 + ((u % 10 : Nat) : Int)]
def digs (n : Int) : List Int := digF 20 n.toNat
theorem digF_eq : ∀ (f u : Nat), u < 10 ^ (f + 1) → digF f u = (Lib.decDigits u).map fun b => (b.toNat : Int)
  | 0, u, h => by
    have h : u < 10 := by simpa using h
    have h2 : (48 + u) % 256 = 48 + u := by omega
    rw [Lib.decDigits_one h, digF]
    simp [h2]
  | f + 1, u, h => by
    by_cases hu : u < 10
    · have h2 : (48 + u) % 256 = 48 + u := by omega
      rw [Lib.decDigits_one hu, digF, if_pos hu]
      simp [h2]
    · have h2 : (48 + u % 10) % 256 = 48 + u % 10 := by omega
      rw [digF, if_neg hu, digF_eq f (u / 10) (by rw [Nat.div_lt_iff_lt_mul (by decide)]; rw [Nat.pow_succ] at h; exact h)]
      have h3 : Lib.decDigits u = Lib.decDigits (u / 10) ++ [UInt8.ofNat (48 + u % 10)] := by rw [Lib.decDigits, dif_neg hu]
      rw [h3]
      simp [h2]
theorem digs_cells (u : Nat) (h : u < 18446744073709551616) : Lib.byteCells (Lib.decDigits u) = cellsL .u8 (digs u) := by
  rw [digs, Int.toNat_natCast, digF_eq 20 u (by omega)]
  simp [Lib.byteCells, cellsL]
theorem digs_len (n : Int) : (digs n).length ≤ 21 := by
  have : ∀ f u, (digF f u).length ≤ f + 1 := by
    intro f
    induction f with
    | zero => intro u; simp [digF]
    | succ f ih => intro u; unfold digF; split <;> simp; exact ih _
  exact this 20 _

/-- The library's table of powers lies where it lay, below B. -/
structure Tab (B : Nat) (w : World) : Prop where
  is : Lib.TabIs Tryd.prog w "internal/strconv.uint64pow10" .u64 Lib.pow10Tab
  lt : ∀ g, Tryd.prog.globalNamed "internal/strconv.uint64pow10" = some g → g < B
theorem Tab.below {B : Nat} {w w' : World} (h : Tab B w) (hB : Below B w w') : Tab B w' := by
  refine ⟨?_, h.lt⟩
  have h1 := h.is
  unfold Lib.TabIs World.var? at *
  cases hg : Tryd.prog.globalNamed "internal/strconv.uint64pow10" with
  | none => rw [hg] at h1; simp at h1
  | some g =>
    rw [hg] at h1
    simp only [Option.bind_some] at h1 ⊢
    rw [hB.block g (h.lt g hg)]
    exact h1
theorem Tab.mono {B B' : Nat} {w : World} (h : Tab B w) (hB : B ≤ B') : Tab B' w := ⟨h.is, fun g hg => Nat.lt_of_lt_of_le (h.lt g hg) hB⟩
set_option maxRecDepth 100000 in
set_option maxHeartbeats 4000000 in
/-- strconv.AppendUint(dst, n, 10). -/
theorem uint_any (B n : Nat) (v : Value) (l : List Int) (w : World) (hn : n < 18446744073709551616) (h : Hid (Txt B w v l)) (hl : l.length ≤ 1000000000) (hB : B ≤ w.heap.size) (ht : Hid (Tab B w)) :
    Calls Tryd.prog 58 #[v, .int .u64 n, .int .i64 10] w fun e w' => ∃ v', e = .returned v' ∧ Hid (Txt B w' v' (l ++ digs n)) ∧ Hid (Kept B w w') := by
  have key : Calls Tryd.prog 71 #[v, .int .u64 n, .int .i64 10] w fun e w' => ∃ v', e = .returned v' ∧ Hid (Txt B w' v' (l ++ digs n)) ∧ Hid (Kept B w w') := by
    have fin : ∀ (e : Ending) (w' : World), (∃ v', e = .returned v' ∧ w'.ownsRow B 5 1 v' (l.length + (Lib.decDigits n).length) (cellsL .u8 l ++ Lib.byteCells (Lib.decDigits n)) ∧ Below B w w' ∧ Lib.OthersKept 5 none w w') → ∃ v', e = .returned v' ∧ Hid (Txt B w' v' (l ++ digs n)) ∧ Hid (Kept B w w') := by
      rintro e w' ⟨v', rfl, h1, h2, h3⟩
      refine ⟨v', rfl, ?_, ⟨h2, fun g t xs htt hb => h3 g _ hb (by simp) (fun c fz hh => by injection hh with _ hh; exact htt hh)⟩⟩
      have hlen : (Lib.decDigits n).length = (digs n).length := by
        have := congrArg List.length (digs_cells n hn)
        rwa [Lib.byteCells_length, cellsL_length] at this
      rw [digs_cells n hn, ← cellsL_append, hlen] at h1
      show Txt B w' v' (l ++ digs n)
      unfold Txt
      rw [List.length_append]
      exact h1
    by_cases hs : n < 100
    · exact (Tryd.internal_strconv_AppendUint_10_small B l.length n hs v _ w h.out hB (by omega)).mono fin
    · exact (Tryd.internal_strconv_AppendUint_10_big B l.length n (by omega) hn v _ w h.out hB (by omega) ht.out.is).mono fin
  go_enter Tryd.func58, Tryd.ntmps58
  go_wp2_with fail
  refine key.mono ?_; rintro e w1 ⟨v', rfl, h1, h2⟩
  go_wp2
  go_ret
  exact ⟨v', rfl, h1, h2⟩
end Go.Proofs.YtlbgdgobhiokpaaDoor

/- A node's text up to its first kid's; what closes it. -/
namespace Go.Proofs.YtlbgdgobhiokpaaDoor
open Go.RowKit
set_option linter.unusedVariables false

def beginT (x : Nd) : List Int :=
  if x.1 = 1 then digs x.2.1 else if x.1 = 2 then (if x.2.1 = 1 then [116, 114, 117, 101] else [102, 97, 108, 115, 101]) else if x.1 = 3 then [91] else if x.1 = 4 then [123] else if x.1 = 6 then [60] ++ digs x.2.1 ++ [58]
  else if x.2.2 = 0 then [110, 111, 110, 101] else [115, 111, 109, 101, 32]
def boolT (b : Bool) : List Int := if b = true then [116, 114, 117, 101] else [102, 97, 108, 115, 101]
def endT (k : Int) : List Int := if k = 3 then [93] else if k = 4 then [125] else if k = 6 then [62] else []
def endS (k : Int) : ByteArray := strOfNums (endT k)
theorem beginT_len (x : Nd) : (beginT x).length ≤ 23 := by
  have := digs_len x.2.1
  unfold beginT
  split <;> (try split) <;> (try split) <;> (try split) <;> (try split) <;> (try split) <;> simp <;> omega
theorem endT_len (k : Int) : (endT k).length ≤ 1 := by
  unfold endT
  split <;> (try split) <;> (try split) <;> simp
theorem ending_any (k : Int) (w : World) : Calls Tryd.prog 35 #[.int .i64 k] w fun e w' => e = .returned (.string (endS k)) ∧ w = w' := by
  go_enter Tryd.func35, Tryd.ntmps35
  by_cases h3 : k = 3
  · subst h3; go_wp2; go_ret; exact ⟨rfl, rfl⟩
  by_cases h4 : k = 4
  · subst h4; go_wp2; go_ret; exact ⟨rfl, rfl⟩
  by_cases h6 : k = 6
  · subst h6; go_wp2; go_ret; exact ⟨rfl, rfl⟩
  · have h : Hid (endS k = ByteArray.mk #[]) := by show _ = _; rw [endS, endT, if_neg h3, if_neg h4, if_neg h6]; rfl
    go_wp2
    go_ret
    exact ⟨by rw [h.out]; rfl, rfl⟩
set_option maxRecDepth 100000 in
set_option maxHeartbeats 4000000 in
theorem bool_any (B : Nat) (b : Bool) (v : Value) (l : List Int) (w : World) (h : Hid (Txt B w v l)) (hl : l.length ≤ 1000000000) (hB : B ≤ w.heap.size) :
    Calls Tryd.prog 59 #[v, .bool b] w fun e w' => ∃ v', e = .returned v' ∧ Hid (Txt B w' v' (l ++ boolT b)) ∧ Hid (Kept B w w') := by
  have key : Calls Tryd.prog 72 #[v, .bool b] w fun e w' => ∃ v', e = .returned v' ∧ Hid (Txt B w' v' (l ++ boolT b)) ∧ Hid (Kept B w w') := by
    go_enter Tryd.func72, Tryd.ntmps72
    cases b with
    | true =>
      obtain ⟨v', w', r1, o1, k1⟩ := run_str h.out ⟨#[116, 114, 117, 101]⟩ [116, 114, 117, 101] rfl (by simp) hl hB
      have R1 : Hid _ := r1
      have O1 : Hid _ := o1
      have K1 : Hid _ := k1
      clear r1 o1 k1
      go_wp2_with (at_builtin; have _t := R1; refine wpList_append_run rfl (.tmp 6) (.const (.string ⟨#[116, 114, 117, 101]⟩)) 41 9 rfl rfl rfl R1.out ?_; clear R1)
      go_ret
      exact ⟨v', rfl, O1, K1⟩
    | false =>
      obtain ⟨v', w', r1, o1, k1⟩ := run_str h.out ⟨#[102, 97, 108, 115, 101]⟩ [102, 97, 108, 115, 101] rfl (by simp) hl hB
      have R1 : Hid _ := r1
      have O1 : Hid _ := o1
      have K1 : Hid _ := k1
      clear r1 o1 k1
      go_wp2_with (at_builtin; have _t := R1; refine wpList_append_run rfl (.tmp 8) (.const (.string ⟨#[102, 97, 108, 115, 101]⟩)) 41 9 rfl rfl rfl R1.out ?_; clear R1)
      go_ret
      exact ⟨v', rfl, O1, K1⟩
  go_enter Tryd.func59, Tryd.ntmps59
  go_wp2_with fail
  refine key.mono ?_; rintro e w1 ⟨v', rfl, h1, h2⟩
  go_wp2
  go_ret
  exact ⟨v', rfl, h1, h2⟩
set_option maxRecDepth 100000 in
set_option maxHeartbeats 8000000 in
theorem begin_any (B : Nat) (x : Nd) (v : Value) (l : List Int) (w : World) (hx : right x = true) (hx0 : 0 ≤ x.2.1) (h : Hid (Txt B w v l)) (hl : l.length ≤ 100000000) (hB : B ≤ w.heap.size) (ht : Hid (Tab B w)) :
    Calls Tryd.prog 34 #[v, ndv x] w fun e w' => ∃ v', e = .returned v' ∧ Hid (Txt B w' v' (l ++ beginT x)) ∧ Hid (Kept B w w') := by
  obtain ⟨k, n, c⟩ := x
  have hr := (right_iff _).1 hx
  simp only at hr hx0
  clear hx
  obtain ⟨hk, hn, hc1, hc2⟩ := hr
  have hn2 : n < 18446744073709551616 := by unfold mostN at hn; split at hn <;> (try split at hn) <;> (try split at hn) <;> omega
  obtain ⟨n, rfl⟩ := Int.eq_ofNat_of_zero_le hx0
  clear hn hc1 hc2
  unfold ndv
  obtain ⟨wB, hwB⟩ : ∃ wB, wB = w.alloc (.cells #[.int .i64 k, .int .u64 n, .int .i64 c] 37) := ⟨_, rfl⟩
  have HBB : Hid (Below w.heap.size w wB) := by rw [hwB]; exact (Below.refl _ _).alloc (Nat.le_refl _) _
  have KB : Hid (Blk wB w.heap.size 37 [.int .i64 k, .int .u64 n, .int .i64 c]) := by rw [hwB]; exact Blk.newA w _ 37
  have HT : Hid (Txt B wB v l) := h.out.later HBB.out
  have HTab : Hid (Tab B wB) := ht.out.below (HBB.out.mono hB)
  have hBs : B ≤ wB.heap.size := Nat.le_trans hB HBB.out.size
  have HK : Hid (Kept B w wB) := Kept.of_below hB HBB.out
  have c0 : wB.cell? ⟨w.heap.size, 0, none⟩ = some (.int .i64 k) := KB.out.cell 0
  have c1 : wB.cell? ⟨w.heap.size, 1, none⟩ = some (.int .u64 n) := KB.out.cell 1
  have c2 : wB.cell? ⟨w.heap.size, 2, none⟩ = some (.int .i64 c) := KB.out.cell 2
  go_enter Tryd.func34, Tryd.ntmps34
  go_upto_region 1 with fail
  rw [← hwB]
  clear hwB h ht
  by_cases h1 : k = 1
  · subst h1
    go_wp2_with fail
    refine (uint_any B n v l wB (by omega) HT (by omega) hBs HTab).mono ?_; rintro e w1 ⟨v', rfl, H1, H2⟩
    go_wp2
    go_ret
    exact ⟨v', rfl, H1, HK.out.trans H2.out⟩
  by_cases h2 : k = 2
  · subst h2
    go_wp2_with fail
    refine (bool_any B (decide ((n : Int) = 1)) v l wB HT (by omega) hBs).mono ?_; rintro e w1 ⟨v', rfl, H1, H2⟩
    go_wp2
    go_ret
    have e : beginT (2, (n : Int), c) = boolT (decide ((n : Int) = 1)) := by simp [beginT, boolT]
    exact ⟨v', rfl, e ▸ H1, HK.out.trans H2.out⟩
  by_cases h3 : k = 3
  · subst h3
    obtain ⟨v', w', r1, o1, k1⟩ := run_byte HT.out 91 (by omega) hBs
    have R1 : Hid _ := r1
    have O1 : Hid _ := o1
    have K1 : Hid _ := k1
    clear r1 o1 k1
    go_wp2_with (at_builtin; have _t := R1; refine wpList_append_run rfl (.tmp 22) (.tmp 23) 41 41 rfl rfl rfl R1.out ?_; clear R1)
    go_ret
    exact ⟨v', rfl, O1, HK.out.trans K1.out⟩
  by_cases h4 : k = 4
  · subst h4
    obtain ⟨v', w', r1, o1, k1⟩ := run_byte HT.out 123 (by omega) hBs
    have R1 : Hid _ := r1
    have O1 : Hid _ := o1
    have K1 : Hid _ := k1
    clear r1 o1 k1
    go_wp2_with (at_builtin; have _t := R1; refine wpList_append_run rfl (.tmp 27) (.tmp 28) 41 41 rfl rfl rfl R1.out ?_; clear R1)
    go_ret
    exact ⟨v', rfl, O1, HK.out.trans K1.out⟩
  by_cases h6 : k = 6
  · subst h6
    obtain ⟨v1, w1, r1, o1, k1⟩ := run_byte HT.out 60 (by omega) hBs
    have R1 : Hid _ := r1
    have O1 : Hid _ := o1
    have K1 : Hid _ := k1
    have d1 : w1.cell? ⟨w.heap.size, 1, none⟩ = some (.int .u64 n) := (k1.oth _ _ _ (by decide) KB.out).cell 1
    have HTab1 : Hid (Tab B w1) := HTab.out.below k1.bel
    have hB1 : B ≤ w1.heap.size := Nat.le_trans hBs k1.bel.size
    clear r1 o1 k1
    go_wp2_with (first | (at_builtin; have _t := R1; refine wpList_append_run rfl (.tmp 32) (.tmp 33) 41 41 rfl rfl rfl R1.out ?_; clear R1) | (go_at_call 58; fail))
    refine (uint_any B n v1 (l ++ [60]) w1 (by omega) O1 (by simp; omega) hB1 HTab1).mono ?_; rintro e w2 ⟨v2, rfl, H1, H2⟩
    obtain ⟨v3, w3, r3, o3, k3⟩ := run_byte H1.out 58 (by have := digs_len n; simp; omega) (Nat.le_trans hB1 H2.out.bel.size)
    have R3 : Hid _ := r3
    have O3 : Hid _ := o3
    have K3 : Hid _ := k3
    clear r3 o3 k3
    go_wp2_with (at_builtin; have _t := R3; refine wpList_append_run rfl (.tmp 39) (.tmp 40) 41 41 rfl rfl rfl R3.out ?_; clear R3)
    go_ret
    have e : l ++ beginT (6, (n : Int), c) = l ++ [60] ++ digs n ++ [58] := by simp [beginT]
    exact ⟨v3, rfl, e ▸ O3, ((HK.out.trans K1.out).trans H2.out).trans K3.out⟩
  · obtain rfl : k = 5 := by omega
    by_cases h0 : c = 0
    · subst h0
      obtain ⟨v', w', r1, o1, k1⟩ := run_str HT.out ⟨#[110, 111, 110, 101]⟩ [110, 111, 110, 101] rfl (by simp) (by omega) hBs
      have R1 : Hid _ := r1
      have O1 : Hid _ := o1
      have K1 : Hid _ := k1
      clear r1 o1 k1
      go_wp2_with (at_builtin; have _t := R1; refine wpList_append_run rfl (.tmp 45) (.const (.string ⟨#[110, 111, 110, 101]⟩)) 41 9 rfl rfl rfl R1.out ?_; clear R1)
      go_ret
      exact ⟨v', rfl, O1, HK.out.trans K1.out⟩
    · obtain ⟨v', w', r1, o1, k1⟩ := run_str HT.out ⟨#[115, 111, 109, 101, 32]⟩ [115, 111, 109, 101, 32] rfl (by simp) (by omega) hBs
      have R1 : Hid _ := r1
      have O1 : Hid _ := o1
      have K1 : Hid _ := k1
      have e : Hid (beginT (5, (n : Int), c) = [115, 111, 109, 101, 32]) := by show _ = _; simp [beginT, h0]
      have hb : (c == 0) = false := by simpa using h0
      clear r1 o1 k1 h1 h2 h3 h4 h6 hk c1 HT HTab KB HBB h0
      go_wp2_with (at_builtin; have _t := R1; refine wpList_append_run rfl (.tmp 47) (.const (.string ⟨#[115, 111, 109, 101, 32]⟩)) 41 9 rfl rfl rfl R1.out ?_; clear R1)
      go_ret
      exact ⟨v', rfl, e.out ▸ O1, HK.out.trans K1.out⟩
end Go.Proofs.YtlbgdgobhiokpaaDoor
