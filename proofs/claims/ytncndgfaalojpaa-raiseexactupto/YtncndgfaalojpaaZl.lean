/- size: kidsOf, choice. -/
import Derived.Test.YtncndgfaalojpaaZj
namespace Go.Proofs.Ytncndgfaalojpaa
open Go.RowKit
set_option linter.unusedVariables false

def exAt (X : List Ex) (i : Int) : Ex := X.getD i.toNat ex0
def kidL (X : List Ex) (k el : Int) (ps : List Pt) : List Ex := (if hasE k then [exAt X el] else []) ++ ps.map (fun p => exAt X p.ty)
theorem kidL_succ {X : List Ex} {k el : Int} {ps : List Pt} {m : Nat} {p : Pt} (h : ps[m]? = some p) : kidL X k el (ps.take (m + 1)) = kidL X k el (ps.take m) ++ [exAt X p.ty] := by
  have hm := (List.getElem?_eq_some_iff.1 h).1
  unfold kidL
  rw [List.take_succ_eq_append_getElem hm, (List.getElem?_eq_some_iff.1 h).2, List.map_append, ← List.append_assoc]
  rfl
theorem kidL_len (X : List Ex) (k el : Int) (ps : List Pt) : (kidL X k el ps).length ≤ 1 + ps.length := by
  unfold kidL
  split <;> simp <;> omega
theorem exAt_at {X : List Ex} {i : Nat} (h : i < X.length) : X[i]? = some (exAt X (i : Int)) := by
  unfold exAt
  rw [Int.toNat_natCast, List.getElem?_eq_getElem h]
  simp [List.getD, h]
theorem exc_one (l : List Ex) : ∀ u ∈ cellsG exc l, u.oneCell' = true := by
  intro u hu
  simp only [cellsG, List.mem_flatMap] at hu
  obtain ⟨x, _, hx⟩ := hu
  simp [exc] at hx
  rcases hx with rfl | rfl | rfl | rfl <;> rfl
theorem infoX : (Try.prog.info? 63).map (fun i => (i.zero, i.size, i.bytes)) = some (some (.agg #[.bool false, .int .i64 0, .int .i64 0, .int .i64 0]), 4, 32) := by kernel_rfl
/-- A list of extents of the call's own. -/
def XOwn (w : World) (B : Nat) (v : Value) (l : List Ex) : Prop := w.ownsRow B 63 4 v l.length (cellsG exc l)
theorem XOwn.nil (w : World) (B : Nat) : XOwn w B (.slice none 0 0) [] := World.ownsRow_nil _ _ _ _
theorem XOwn.later {w w' : World} {B : Nat} {v : Value} {l : List Ex} (h : XOwn w B v l) (hB : Below w.heap.size w w') : XOwn w' B v l := ownS_upd h (Upd.of_below (S := fun _ => False) hB) (fun _ _ h => h)
theorem XOwn.push {w : World} {B : Nat} {v : Value} {l : List Ex} (h : XOwn w B v l) (x : Ex) (hl : l.length ≤ 4000000000000) (hB : B ≤ w.heap.size) :
    ∃ v' w', (Builtin.append_ #[44, 44] 44 #[v, .slice (some ⟨w.heap.size, 0, none⟩) 1 1]).run Try.prog (w.alloc (.cells #[.bool x.f, .int .i64 x.l, .int .i64 x.m, .int .i64 x.d] 63)) = .ok v' w' ∧ XOwn w' B v' (l ++ [x]) ∧ Below B w w' := by
  obtain ⟨g, cap, w', h1, h2, h3, h4⟩ := run_pushS (P := Try.prog) (t := 44) (e := 63) (c := 4) Try.underlying44 infoX rfl (by decide) w 44 h (exc x) rfl (fun u hu => by simp [exc] at hu; rcases hu with rfl | rfl | rfl | rfl <;> rfl) (by unfold maxLen; omega) (by omega) hB
  refine ⟨_, w', h1, ?_, h3.below B hB (fun k hk => (h.lt k hk).1)⟩
  unfold XOwn
  rw [cellsG_app, cellsG_one, List.length_append, List.length_singleton]
  exact h2
theorem XOwn.row {w : World} {B : Nat} {v : Value} {l : List Ex} (h : XOwn w B v l) : ∃ a cap, v = .slice a l.length cap ∧ l.length ≤ cap ∧ (a = none → cap = 0) ∧ XRow w a l := own_grow exc_len h
set_option maxRecDepth 100000 in
set_option maxHeartbeats 4000000 in
theorem choice_any (a : Option Addr) (c : Nat) (l : List Ex) (w : World) (hl : l.length ≤ 9223372036854775806) (hr : Hid (XRow w a l)) :
    Calls Try.prog 47 #[.slice a l.length c] w fun e w' => e = .returned (.tuple #[.int .i64 (chX l).1, .int .i64 (chX l).2]) ∧ Below w.heap.size w w' := by
  go_enter Try.func47, Try.ntmps47
  go_wp2_with fail
  go_loopw [2, 3, 8] (fun x2 x3 x8 wr => ∃ i : Nat, i ≤ l.length ∧ x8 = .int .i64 (i : Int) ∧ (∃ d e, Hid ((d, e) = chX (l.take i)) ∧ x2 = .int .i64 d ∧ x3 = .int .i64 e) ∧ Hid (Below w.heap.size w wr)) (fun _ _ x8 _ => l.length - (intOf x8).toNat)
  case atStart => exact ⟨0, Nat.zero_le _, rfl, ⟨4611686018427387904, 0, hide_ rfl, rfl, rfl⟩, hide_ (Below.refl _ _)⟩
  case round =>
    obtain ⟨i, hi, rfl, ⟨d, e, HD, rfl, rfl⟩, HB⟩ := hrel
    generalize wr = wq at *
    by_cases hlt : i < l.length
    · have hlt' : (i : Int) < l.length := by omega
      obtain ⟨b, o, rfl, hb, hc⟩ := (hr.out.later HB.out).open (by omega)
      have hx : l[i]? = some (l[i]'hlt) := List.getElem?_eq_getElem hlt
      have hcx := hc i _ hx
      have HS := hide_ (chX_succ hx)
      generalize l[i]'hlt = x at *
      obtain ⟨xf, xl, xm, xd⟩ := x
      have i0 := hcx 0 (by decide); have i1 := hcx 1 (by decide); have i2 := hcx 2 (by decide); have i3 := hcx 3 (by decide)
      simp [exc] at i0 i1 i2 i3
      rw [← HD.out] at HS
      simp only at HS
      have kx := Blk.newA wq #[.bool xf, .int .i64 xl, .int .i64 xm, .int .i64 xd] 63
      have hBx := below1 wq (.cells #[.bool xf, .int .i64 xl, .int .i64 xm, .int .i64 xd] 63)
      obtain ⟨wx, hwx⟩ : ∃ wx, wx = wq.alloc (.cells #[.bool xf, .int .i64 xl, .int .i64 xm, .int .i64 xd] 63) := ⟨_, rfl⟩
      rw [← hwx] at kx hBx
      have HBx := hide_ (below_to HB.out hBx)
      have j1 := kx.cell 1; have j2 := kx.cell 2
      simp at j1 j2
      clear hc hx hcx kx hBx
      go_upto_region 5 with fail
      rw [← hwx]
      clear hwx i0 i1 i2 i3
      go_region
      go_wp2_with fail
      go_roundw
      case rel => exact ⟨i + 1, by omega, by go_num, ⟨_, _, by rw [HS.out, ← max_if, ← min_if]; exact hide_ rfl, rfl, rfl⟩, hide_ HBx.out.drew⟩
      case measure => simp [intOf]; omega
    · obtain rfl : i = l.length := by omega
      have HV : Hid (chX l = (d, e)) := hide_ (by rw [HD.out, List.take_length])
      go_wp2
      go_ret2
      exact ⟨by rw [HV.out]; rfl, HB.out⟩
set_option maxRecDepth 100000 in
set_option maxHeartbeats 8000000 in
theorem kidsOf_any (k n el : Int) (ps : List Pt) (va : Option Addr) (vc : Nat) (X : List Ex) (ax : Option Addr) (cx : Nat) (w : World) (hXl : X.length ≤ 10000000000000) (hok : Hid (tyOk ⟨k, n, el, ps⟩ X.length = true)) (hP : Hid (PRow w va ps)) (hX : Hid (XRow w ax X)) :
    Calls Try.prog 43 #[.agg #[.int .i64 k, .int .i64 n, .int .i64 el, .slice va ps.length vc], .slice ax X.length cx] w fun e w' => ∃ v, e = .returned v ∧ Hid (XOwn w' w.heap.size v (kidL X k el ps)) ∧ Hid (Below w.heap.size w w') := by
  have hps := tyOk_len hok.out
  simp only at hps
  have hB := below1 w (.cells #[.int .i64 k, .int .i64 n, .int .i64 el, .slice va ps.length vc] 43)
  have kx := Blk.newA w #[.int .i64 k, .int .i64 n, .int .i64 el, .slice va ps.length vc] 43
  obtain ⟨w0, hw0⟩ : ∃ wx, wx = w.alloc (.cells #[.int .i64 k, .int .i64 n, .int .i64 el, .slice va ps.length vc] 43) := ⟨_, rfl⟩
  rw [← hw0] at hB kx
  have HB0 := hide_ hB
  have i0 := kx.cell 0; have i2 := kx.cell 2; have i3 := kx.cell 3
  have HK0 := hide_ kx
  simp at i0 i2 i3
  clear hB kx
  go_enter Try.func43, Try.ntmps43
  go_upto_region 1 with fail
  rw [← hw0]
  clear hw0
  by_cases h4 : k = 4
  · subst h4
    have hel := tyOk_elem hok.out (show hasE 4 = true from rfl)
    simp only at hel
    obtain ⟨ej, rfl⟩ := Int.eq_ofNat_of_zero_le hel.1
    have hejX : ej < X.length := by omega
    have hejX' : (ej : Int) < X.length := by omega
    obtain ⟨bx, ox, rfl, hbx, hcX⟩ := (hX.out.later HB0.out).open (by omega)
    have hcy := hcX ej _ (exAt_at hejX)
    have x0 := hcy 0 (by decide); have x1 := hcy 1 (by decide); have x2 := hcy 2 (by decide); have x3 := hcy 3 (by decide)
    simp [exc] at x0 x1 x2 x3
    obtain ⟨v0, w1, hrun, hO', hB'⟩ := (XOwn.nil w0 w.heap.size).push (exAt X (ej : Int)) (by simp) HB0.out.size
    have HBk : Hid (Below w0.heap.size w0 w1) := hide_ (by
      obtain ⟨v2, w2, hr2, -, h2⟩ := (XOwn.nil w0 w0.heap.size).push (exAt X (ej : Int)) (by simp) (Nat.le_refl _)
      rw [hrun] at hr2
      injection hr2 with _ e
      subst e
      exact h2)
    have HO : Hid (XOwn w1 w.heap.size v0 (kidL X 4 (ej : Int) (ps.take 0))) := hide_ (by
      have e : kidL X 4 (ej : Int) (ps.take 0) = [] ++ [exAt X (ej : Int)] := by simp [kidL, hasE]
      rw [e]; exact hO')
    have HRun := hide_ hrun
    have HBw := hide_ (HB0.out.trans hB')
    clear hrun hO' hB' hcX hcy hbx hel
    go_upto_region 7 with (first | (at_builtin; refine wpList_append_run rfl (.tmp 14) (.tmp 20) 44 44 rfl rfl rfl HRun.out ?_; clear HRun))
    clear x0 x1 x2 x3
    have kt := (HK0.out.later HBk.out).cell 3
    simp at kt
    clear i0 i2 i3
    go_wp2_with fail
    go_loopw [5, 25] (fun x5 x25 wr => ∃ (v : Value) (m : Nat), v = x5 ∧ m ≤ ps.length ∧ x25 = .int .i64 (m : Int) ∧ Hid (XOwn wr w.heap.size v (kidL X 4 (ej : Int) (ps.take m))) ∧ Hid (Below w.heap.size w wr)) (fun _ x25 _ => ps.length - (intOf x25).toNat)
    case atStart => exact ⟨_, 0, rfl, Nat.zero_le _, rfl, HO, HBw⟩
    case round =>
      obtain ⟨v, m, rfl, hm, rfl, HO1, HB1⟩ := hrel
      generalize wr = wq at *
      clear HO HBw HBk kt
      by_cases hlt : m < ps.length
      · have hlt' : (m : Int) < ps.length := by omega
        obtain ⟨b, o, rfl, hb, hc⟩ := (hP.out.later HB1.out).open (by omega)
        have hx : ps[m]? = some (ps[m]'hlt) := List.getElem?_eq_getElem hlt
        have hcx := hc m _ hx
        have hpr := tyOk_part (t := ⟨4, n, (ej : Int), ps⟩) hok.out hx
        have HS := hide_ (kidL_succ (X := X) (k := 4) (el := (ej : Int)) hx)
        have hkl := kidL_len X 4 (ej : Int) (ps.take m)
        rw [List.length_take] at hkl
        generalize ps[m]'hlt = p at *
        obtain ⟨lb, tg, ty⟩ := p
        simp only at hpr HS
        obtain ⟨ej, rfl⟩ := Int.eq_ofNat_of_zero_le hpr.1
        have hejX : ej < X.length := by omega
        have hejX' : (ej : Int) < X.length := by omega
        have i0 := hcx 0 (by decide); have i1 := hcx 1 (by decide); have i2 := hcx 2 (by decide)
        simp [ptc] at i0 i1 i2
        clear hc hx hcx hpr
        have kp := Blk.newA wq #[.string lb, .int .i64 tg, .int .i64 (ej : Int)] 58
        have hBx := below1 wq (.cells #[.string lb, .int .i64 tg, .int .i64 (ej : Int)] 58)
        obtain ⟨wy, hwy⟩ : ∃ wy, wy = wq.alloc (.cells #[.string lb, .int .i64 tg, .int .i64 (ej : Int)] 58) := ⟨_, rfl⟩
        rw [← hwy] at kp hBx
        have HBy := hide_ (HB1.out.trans (hBx.mono HB1.out.size))
        have HOy := hide_ (HO1.out.later hBx)
        have y2 := kp.cell 2
        simp at y2
        obtain ⟨bx', ox', hax, hbx, hcX⟩ := (hX.out.later HBy.out).open (by omega)
        injection hax with hax
        injection hax with e1 e2 _
        subst e1 e2
        have hcy := hcX ej _ (exAt_at hejX)
        generalize exAt X (ej : Int) = x at *
        have x0 := hcy 0 (by decide); have x1 := hcy 1 (by decide); have x2 := hcy 2 (by decide); have x3 := hcy 3 (by decide)
        simp [exc] at x0 x1 x2 x3
        obtain ⟨v', w', hrun, hO', hB'⟩ := HOy.out.push x (by omega) HBy.out.size
        rw [← HS.out] at hO'
        have HRun := hide_ hrun
        have HO' := hide_ hO'
        have HB' := hide_ (HBy.out.trans hB')
        clear hrun hO' hB' kp hBx hcX hcy HOy HBy HO1 HB1 hbx hb
        go_upto_region 10 with fail
        rw [← hwy]
        clear hwy i0 i1 i2
        go_wp2_with (first | (at_builtin; refine wpList_append_run rfl (.tmp 29) (.tmp 35) 44 44 rfl rfl rfl HRun.out ?_; clear HRun))
        go_roundw
        case rel => exact ⟨_, m + 1, rfl, by omega, by go_num, HO', HB'⟩
        case measure => simp [intOf]; omega
      · obtain rfl : m = ps.length := by omega
        have HV : Hid (XOwn wq w.heap.size v (kidL X 4 (ej : Int) ps)) := hide_ (by have h := HO1.out; rw [List.take_length] at h; exact h)
        go_wp2
        go_ret
        exact ⟨_, rfl, HV, HB1⟩
  have c4 : (k == 4) = false := by simpa using h4
  by_cases h5 : k = 5
  · subst h5
    have hel := tyOk_elem hok.out (show hasE 5 = true from rfl)
    simp only at hel
    obtain ⟨ej, rfl⟩ := Int.eq_ofNat_of_zero_le hel.1
    have hejX : ej < X.length := by omega
    have hejX' : (ej : Int) < X.length := by omega
    obtain ⟨bx, ox, rfl, hbx, hcX⟩ := (hX.out.later HB0.out).open (by omega)
    have hcy := hcX ej _ (exAt_at hejX)
    have x0 := hcy 0 (by decide); have x1 := hcy 1 (by decide); have x2 := hcy 2 (by decide); have x3 := hcy 3 (by decide)
    simp [exc] at x0 x1 x2 x3
    obtain ⟨v0, w1, hrun, hO', hB'⟩ := (XOwn.nil w0 w.heap.size).push (exAt X (ej : Int)) (by simp) HB0.out.size
    have HBk : Hid (Below w0.heap.size w0 w1) := hide_ (by
      obtain ⟨v2, w2, hr2, -, h2⟩ := (XOwn.nil w0 w0.heap.size).push (exAt X (ej : Int)) (by simp) (Nat.le_refl _)
      rw [hrun] at hr2
      injection hr2 with _ e
      subst e
      exact h2)
    have HO : Hid (XOwn w1 w.heap.size v0 (kidL X 5 (ej : Int) (ps.take 0))) := hide_ (by
      have e : kidL X 5 (ej : Int) (ps.take 0) = [] ++ [exAt X (ej : Int)] := by simp [kidL, hasE]
      rw [e]; exact hO')
    have HRun := hide_ hrun
    have HBw := hide_ (HB0.out.trans hB')
    clear hrun hO' hB' hcX hcy hbx hel
    go_upto_region 7 with (first | (at_builtin; refine wpList_append_run rfl (.tmp 14) (.tmp 20) 44 44 rfl rfl rfl HRun.out ?_; clear HRun))
    clear x0 x1 x2 x3
    have kt := (HK0.out.later HBk.out).cell 3
    simp at kt
    clear i0 i2 i3
    go_wp2_with fail
    go_loopw [5, 25] (fun x5 x25 wr => ∃ (v : Value) (m : Nat), v = x5 ∧ m ≤ ps.length ∧ x25 = .int .i64 (m : Int) ∧ Hid (XOwn wr w.heap.size v (kidL X 5 (ej : Int) (ps.take m))) ∧ Hid (Below w.heap.size w wr)) (fun _ x25 _ => ps.length - (intOf x25).toNat)
    case atStart => exact ⟨_, 0, rfl, Nat.zero_le _, rfl, HO, HBw⟩
    case round =>
      obtain ⟨v, m, rfl, hm, rfl, HO1, HB1⟩ := hrel
      generalize wr = wq at *
      clear HO HBw HBk kt
      by_cases hlt : m < ps.length
      · have hlt' : (m : Int) < ps.length := by omega
        obtain ⟨b, o, rfl, hb, hc⟩ := (hP.out.later HB1.out).open (by omega)
        have hx : ps[m]? = some (ps[m]'hlt) := List.getElem?_eq_getElem hlt
        have hcx := hc m _ hx
        have hpr := tyOk_part (t := ⟨5, n, (ej : Int), ps⟩) hok.out hx
        have HS := hide_ (kidL_succ (X := X) (k := 5) (el := (ej : Int)) hx)
        have hkl := kidL_len X 5 (ej : Int) (ps.take m)
        rw [List.length_take] at hkl
        generalize ps[m]'hlt = p at *
        obtain ⟨lb, tg, ty⟩ := p
        simp only at hpr HS
        obtain ⟨ej, rfl⟩ := Int.eq_ofNat_of_zero_le hpr.1
        have hejX : ej < X.length := by omega
        have hejX' : (ej : Int) < X.length := by omega
        have i0 := hcx 0 (by decide); have i1 := hcx 1 (by decide); have i2 := hcx 2 (by decide)
        simp [ptc] at i0 i1 i2
        clear hc hx hcx hpr
        have kp := Blk.newA wq #[.string lb, .int .i64 tg, .int .i64 (ej : Int)] 58
        have hBx := below1 wq (.cells #[.string lb, .int .i64 tg, .int .i64 (ej : Int)] 58)
        obtain ⟨wy, hwy⟩ : ∃ wy, wy = wq.alloc (.cells #[.string lb, .int .i64 tg, .int .i64 (ej : Int)] 58) := ⟨_, rfl⟩
        rw [← hwy] at kp hBx
        have HBy := hide_ (HB1.out.trans (hBx.mono HB1.out.size))
        have HOy := hide_ (HO1.out.later hBx)
        have y2 := kp.cell 2
        simp at y2
        obtain ⟨bx', ox', hax, hbx, hcX⟩ := (hX.out.later HBy.out).open (by omega)
        injection hax with hax
        injection hax with e1 e2 _
        subst e1 e2
        have hcy := hcX ej _ (exAt_at hejX)
        generalize exAt X (ej : Int) = x at *
        have x0 := hcy 0 (by decide); have x1 := hcy 1 (by decide); have x2 := hcy 2 (by decide); have x3 := hcy 3 (by decide)
        simp [exc] at x0 x1 x2 x3
        obtain ⟨v', w', hrun, hO', hB'⟩ := HOy.out.push x (by omega) HBy.out.size
        rw [← HS.out] at hO'
        have HRun := hide_ hrun
        have HO' := hide_ hO'
        have HB' := hide_ (HBy.out.trans hB')
        clear hrun hO' hB' kp hBx hcX hcy HOy HBy HO1 HB1 hbx hb
        go_upto_region 10 with fail
        rw [← hwy]
        clear hwy i0 i1 i2
        go_wp2_with (first | (at_builtin; refine wpList_append_run rfl (.tmp 29) (.tmp 35) 44 44 rfl rfl rfl HRun.out ?_; clear HRun))
        go_roundw
        case rel => exact ⟨_, m + 1, rfl, by omega, by go_num, HO', HB'⟩
        case measure => simp [intOf]; omega
      · obtain rfl : m = ps.length := by omega
        have HV : Hid (XOwn wq w.heap.size v (kidL X 5 (ej : Int) ps)) := hide_ (by have h := HO1.out; rw [List.take_length] at h; exact h)
        go_wp2
        go_ret
        exact ⟨_, rfl, HV, HB1⟩
  have c5 : (k == 5) = false := by simpa using h5
  by_cases h6 : k = 6
  · subst h6
    have hel := tyOk_elem hok.out (show hasE 6 = true from rfl)
    simp only at hel
    obtain ⟨ej, rfl⟩ := Int.eq_ofNat_of_zero_le hel.1
    have hejX : ej < X.length := by omega
    have hejX' : (ej : Int) < X.length := by omega
    obtain ⟨bx, ox, rfl, hbx, hcX⟩ := (hX.out.later HB0.out).open (by omega)
    have hcy := hcX ej _ (exAt_at hejX)
    have x0 := hcy 0 (by decide); have x1 := hcy 1 (by decide); have x2 := hcy 2 (by decide); have x3 := hcy 3 (by decide)
    simp [exc] at x0 x1 x2 x3
    obtain ⟨v0, w1, hrun, hO', hB'⟩ := (XOwn.nil w0 w.heap.size).push (exAt X (ej : Int)) (by simp) HB0.out.size
    have HBk : Hid (Below w0.heap.size w0 w1) := hide_ (by
      obtain ⟨v2, w2, hr2, -, h2⟩ := (XOwn.nil w0 w0.heap.size).push (exAt X (ej : Int)) (by simp) (Nat.le_refl _)
      rw [hrun] at hr2
      injection hr2 with _ e
      subst e
      exact h2)
    have HO : Hid (XOwn w1 w.heap.size v0 (kidL X 6 (ej : Int) (ps.take 0))) := hide_ (by
      have e : kidL X 6 (ej : Int) (ps.take 0) = [] ++ [exAt X (ej : Int)] := by simp [kidL, hasE]
      rw [e]; exact hO')
    have HRun := hide_ hrun
    have HBw := hide_ (HB0.out.trans hB')
    clear hrun hO' hB' hcX hcy hbx hel
    go_upto_region 7 with (first | (at_builtin; refine wpList_append_run rfl (.tmp 14) (.tmp 20) 44 44 rfl rfl rfl HRun.out ?_; clear HRun))
    clear x0 x1 x2 x3
    have kt := (HK0.out.later HBk.out).cell 3
    simp at kt
    clear i0 i2 i3
    go_wp2_with fail
    go_loopw [5, 25] (fun x5 x25 wr => ∃ (v : Value) (m : Nat), v = x5 ∧ m ≤ ps.length ∧ x25 = .int .i64 (m : Int) ∧ Hid (XOwn wr w.heap.size v (kidL X 6 (ej : Int) (ps.take m))) ∧ Hid (Below w.heap.size w wr)) (fun _ x25 _ => ps.length - (intOf x25).toNat)
    case atStart => exact ⟨_, 0, rfl, Nat.zero_le _, rfl, HO, HBw⟩
    case round =>
      obtain ⟨v, m, rfl, hm, rfl, HO1, HB1⟩ := hrel
      generalize wr = wq at *
      clear HO HBw HBk kt
      by_cases hlt : m < ps.length
      · have hlt' : (m : Int) < ps.length := by omega
        obtain ⟨b, o, rfl, hb, hc⟩ := (hP.out.later HB1.out).open (by omega)
        have hx : ps[m]? = some (ps[m]'hlt) := List.getElem?_eq_getElem hlt
        have hcx := hc m _ hx
        have hpr := tyOk_part (t := ⟨6, n, (ej : Int), ps⟩) hok.out hx
        have HS := hide_ (kidL_succ (X := X) (k := 6) (el := (ej : Int)) hx)
        have hkl := kidL_len X 6 (ej : Int) (ps.take m)
        rw [List.length_take] at hkl
        generalize ps[m]'hlt = p at *
        obtain ⟨lb, tg, ty⟩ := p
        simp only at hpr HS
        obtain ⟨ej, rfl⟩ := Int.eq_ofNat_of_zero_le hpr.1
        have hejX : ej < X.length := by omega
        have hejX' : (ej : Int) < X.length := by omega
        have i0 := hcx 0 (by decide); have i1 := hcx 1 (by decide); have i2 := hcx 2 (by decide)
        simp [ptc] at i0 i1 i2
        clear hc hx hcx hpr
        have kp := Blk.newA wq #[.string lb, .int .i64 tg, .int .i64 (ej : Int)] 58
        have hBx := below1 wq (.cells #[.string lb, .int .i64 tg, .int .i64 (ej : Int)] 58)
        obtain ⟨wy, hwy⟩ : ∃ wy, wy = wq.alloc (.cells #[.string lb, .int .i64 tg, .int .i64 (ej : Int)] 58) := ⟨_, rfl⟩
        rw [← hwy] at kp hBx
        have HBy := hide_ (HB1.out.trans (hBx.mono HB1.out.size))
        have HOy := hide_ (HO1.out.later hBx)
        have y2 := kp.cell 2
        simp at y2
        obtain ⟨bx', ox', hax, hbx, hcX⟩ := (hX.out.later HBy.out).open (by omega)
        injection hax with hax
        injection hax with e1 e2 _
        subst e1 e2
        have hcy := hcX ej _ (exAt_at hejX)
        generalize exAt X (ej : Int) = x at *
        have x0 := hcy 0 (by decide); have x1 := hcy 1 (by decide); have x2 := hcy 2 (by decide); have x3 := hcy 3 (by decide)
        simp [exc] at x0 x1 x2 x3
        obtain ⟨v', w', hrun, hO', hB'⟩ := HOy.out.push x (by omega) HBy.out.size
        rw [← HS.out] at hO'
        have HRun := hide_ hrun
        have HO' := hide_ hO'
        have HB' := hide_ (HBy.out.trans hB')
        clear hrun hO' hB' kp hBx hcX hcy HOy HBy HO1 HB1 hbx hb
        go_upto_region 10 with fail
        rw [← hwy]
        clear hwy i0 i1 i2
        go_wp2_with (first | (at_builtin; refine wpList_append_run rfl (.tmp 29) (.tmp 35) 44 44 rfl rfl rfl HRun.out ?_; clear HRun))
        go_roundw
        case rel => exact ⟨_, m + 1, rfl, by omega, by go_num, HO', HB'⟩
        case measure => simp [intOf]; omega
      · obtain rfl : m = ps.length := by omega
        have HV : Hid (XOwn wq w.heap.size v (kidL X 6 (ej : Int) ps)) := hide_ (by have h := HO1.out; rw [List.take_length] at h; exact h)
        go_wp2
        go_ret
        exact ⟨_, rfl, HV, HB1⟩
  have c6 : (k == 6) = false := by simpa using h6
  have HHE : Hid (hasE k = false) := hide_ (decide_eq_false (by omega))
  have HO : Hid (XOwn w0 w.heap.size (.slice none 0 0) (kidL X k el (ps.take 0))) := hide_ (by
    have e : kidL X k el (ps.take 0) = [] := by unfold kidL; rw [HHE.out]; simp
    rw [e]; exact XOwn.nil _ _)
  have HBw := HB0
  have HBk := hide_ (Below.refl w0.heap.size w0)
  go_upto_region 7 with fail
  have kt := (HK0.out.later HBk.out).cell 3
  simp at kt
  clear i0 i2 i3
  go_wp2_with fail
  go_loopw [5, 25] (fun x5 x25 wr => ∃ (v : Value) (m : Nat), v = x5 ∧ m ≤ ps.length ∧ x25 = .int .i64 (m : Int) ∧ Hid (XOwn wr w.heap.size v (kidL X k el (ps.take m))) ∧ Hid (Below w.heap.size w wr)) (fun _ x25 _ => ps.length - (intOf x25).toNat)
  case atStart => exact ⟨_, 0, rfl, Nat.zero_le _, rfl, HO, HBw⟩
  case round =>
    obtain ⟨v, m, rfl, hm, rfl, HO1, HB1⟩ := hrel
    generalize wr = wq at *
    clear HO HBw HBk kt
    by_cases hlt : m < ps.length
    · have hlt' : (m : Int) < ps.length := by omega
      obtain ⟨b, o, rfl, hb, hc⟩ := (hP.out.later HB1.out).open (by omega)
      have hx : ps[m]? = some (ps[m]'hlt) := List.getElem?_eq_getElem hlt
      have hcx := hc m _ hx
      have hpr := tyOk_part (t := ⟨k, n, el, ps⟩) hok.out hx
      have HS := hide_ (kidL_succ (X := X) (k := k) (el := el) hx)
      have hkl := kidL_len X k el (ps.take m)
      rw [List.length_take] at hkl
      generalize ps[m]'hlt = p at *
      obtain ⟨lb, tg, ty⟩ := p
      simp only at hpr HS
      obtain ⟨ej, rfl⟩ := Int.eq_ofNat_of_zero_le hpr.1
      have hejX : ej < X.length := by omega
      have hejX' : (ej : Int) < X.length := by omega
      have i0 := hcx 0 (by decide); have i1 := hcx 1 (by decide); have i2 := hcx 2 (by decide)
      simp [ptc] at i0 i1 i2
      clear hc hx hcx hpr
      have kp := Blk.newA wq #[.string lb, .int .i64 tg, .int .i64 (ej : Int)] 58
      have hBx := below1 wq (.cells #[.string lb, .int .i64 tg, .int .i64 (ej : Int)] 58)
      obtain ⟨wy, hwy⟩ : ∃ wy, wy = wq.alloc (.cells #[.string lb, .int .i64 tg, .int .i64 (ej : Int)] 58) := ⟨_, rfl⟩
      rw [← hwy] at kp hBx
      have HBy := hide_ (HB1.out.trans (hBx.mono HB1.out.size))
      have HOy := hide_ (HO1.out.later hBx)
      have y2 := kp.cell 2
      simp at y2
      obtain ⟨bx, ox, rfl, hbx, hcX⟩ := (hX.out.later HBy.out).open (by omega)
      have hcy := hcX ej _ (exAt_at hejX)
      generalize exAt X (ej : Int) = x at *
      have x0 := hcy 0 (by decide); have x1 := hcy 1 (by decide); have x2 := hcy 2 (by decide); have x3 := hcy 3 (by decide)
      simp [exc] at x0 x1 x2 x3
      obtain ⟨v', w', hrun, hO', hB'⟩ := HOy.out.push x (by omega) HBy.out.size
      rw [← HS.out] at hO'
      have HRun := hide_ hrun
      have HO' := hide_ hO'
      have HB' := hide_ (HBy.out.trans hB')
      clear hrun hO' hB' kp hBx hcX hcy HOy HBy HO1 HB1 hbx hb
      go_upto_region 10 with fail
      rw [← hwy]
      clear hwy i0 i1 i2
      go_wp2_with (first | (at_builtin; refine wpList_append_run rfl (.tmp 29) (.tmp 35) 44 44 rfl rfl rfl HRun.out ?_; clear HRun))
      go_roundw
      case rel => exact ⟨_, m + 1, rfl, by omega, by go_num, HO', HB'⟩
      case measure => simp [intOf]; omega
    · obtain rfl : m = ps.length := by omega
      have HV : Hid (XOwn wq w.heap.size v (kidL X k el ps)) := hide_ (by have h := HO1.out; rw [List.take_length] at h; exact h)
      go_wp2
      go_ret
      exact ⟨_, rfl, HV, HB1⟩
end Go.Proofs.Ytncndgfaalojpaa
