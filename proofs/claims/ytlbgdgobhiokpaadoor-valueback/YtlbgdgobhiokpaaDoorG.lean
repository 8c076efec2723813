/- Path. -/
import Derived.Test.YtlbgdgobhiokpaaDoorF
namespace Go.Proofs.YtlbgdgobhiokpaaDoor
open Go.RowKit
set_option linter.unusedVariables false

theorem own_base {w : World} {B B' n : Nat} {e : TypeId} {c : Nat} {v : Value} {xs : List Value} (h : w.ownsRow B e c v n xs) (hb : B' ≤ B) : w.ownsRow B' e c v n xs := by
  refine ⟨h.1, ?_⟩
  rcases h.2 with hn | ⟨g, cap, cur, e1, hg, rest⟩
  · exact .inl hn
  · exact .inr ⟨g, cap, cur, e1, Nat.le_trans hb hg, rest⟩
theorem take_snoc (l : List Nd) (k : Nat) (h : k < l.length) : l.take (k + 1) = l.take k ++ [l.getD k nil0] := by
  rw [List.take_add_one]; simp [List.getD, List.getElem?_eq_getElem h]
set_option maxRecDepth 100000 in
set_option maxHeartbeats 4000000 in
theorem path_any (a : Option Addr) (len cap : Nat) (p : Int) (l : List Nd) (w : World) (hl : l.length = len) (hcap : len ≤ cap) (hs : len ≤ 1000000) (hcm : cap ≤ 9223372036854775807) (hr : Hid (NRow w a l)) :
    Calls Tryd.prog 19 #[.slice a len cap, .int .i64 p] w fun e w' => ∃ v, e = .returned (.tuple #[v, .int .i64 (place l p)]) ∧ Hid (w'.ownsRow w.heap.size 3 1 v (pathR l p).length (cellsL .i64 (pathR l p))) ∧ Below w.heap.size w w' := by
  go_enter Tryd.func19, Tryd.ntmps19
  go_wp2_with fail
  refine (place_any a len cap p l w hl hs hr).mono ?_; rintro e w1 ⟨rfl, hB1⟩
  by_cases h : place l p = 0
  · obtain ⟨h0, h1, h2⟩ := place_ok h
    obtain ⟨q, rfl⟩ := Int.eq_ofNat_of_zero_le h1
    have hr1 : Hid (NRow w1 a l) := hr.out.later hB1
    obtain ⟨b, off, rfl, hb, hc⟩ := hr1.out.open (by omega)
    have HC : Hid (∀ i, i < l.length → w1.cell? ⟨b, off + i * 3, none⟩ = some (.int .i64 (l.getD i nil0).1) ∧ w1.cell? ⟨b, off + i * 3 + 1, none⟩ = some (.int .u64 (l.getD i nil0).2.1) ∧ w1.cell? ⟨b, off + i * 3 + 2, none⟩ = some (.int .i64 (l.getD i nil0).2.2)) := hc
    have HR : Hid (pathR l (q : Int) = pathL (way (l.take q) [])) := by show _ = _; rw [pathR, if_pos h]; rfl
    have HP : Hid (place l (q : Int) = 0) := h
    have hbw : Hid (b < w1.heap.size) := hb
    have hq : q < len := by omega
    have HW0 : Hid (WOK l 0 []) := WOK.begin h0
    clear hc hr1 h0
    rw [h]
    clear h
    have hql : (q : Int) ≤ cap := by omega
    go_wp2_with fail
    go_loopw [7, 8, 22] (fun xp xf i wr => ∃ (k : Nat) (vp vf : Value), vp = xp ∧ vf = xf ∧ k ≤ q ∧ i = .int .i64 k ∧ Hid (WOK l k (way (l.take k) [])) ∧ Hid (W2 w1.heap.size wr vp vf (way (l.take k) [])) ∧ Hid (Below w1.heap.size w1 wr)) (fun _ _ i _ => q - (intOf i).toNat)
    case atStart => exact ⟨0, _, _, rfl, rfl, Nat.zero_le _, rfl, HW0, ⟨World.ownsRow_nil _ _ _ _, World.ownsRow_nil _ _ _ _, fun g h => by simp [Value.ownBlock] at h⟩, Below.refl _ _⟩
    case round =>
      clear HW0
      obtain ⟨k, vp, vf, rfl, rfl, hk, rfl, HW, HV, HB⟩ := hrel
      by_cases hlt : k < q
      · obtain ⟨c0, c1, c2⟩ := HC.out k (by omega)
        have d0 := (HB.out.cell (p := ⟨b, off + k * 3, none⟩) hbw.out).trans c0
        have d1 := (HB.out.cell (p := ⟨b, off + k * 3 + 1, none⟩) hbw.out).trans c1
        have d2 := (HB.out.cell (p := ⟨b, off + k * 3 + 2, none⟩) hbw.out).trans c2
        obtain ⟨HW1, x0, x1, HX⟩ := HW.out.step (by omega)
        have HS : Hid (way (l.take (k + 1)) [] = wstep (way (l.take k) []) (l.getD k nil0)) := by show _ = _; rw [take_snoc l k (by omega), way_snoc]
        have HW2 : Hid (WOK l (k + 1) (wstep (way (l.take k) []) (l.getD k nil0))) := HW1
        have HX2 : Hid ((l.getD k nil0).2.2 = 0 → ∃ Z j f T, way (l.take k) [] = Z ++ (j, f) :: T ∧ (∀ e ∈ Z, e.2 = 0) ∧ 0 < f ∧ wstep (way (l.take k) []) (l.getD k nil0) = (j + 1, f - 1) :: T) := HX
        have HBD : Hid (∀ e ∈ way (l.take k) [], 0 ≤ e.1 ∧ e.1 + e.2 < 1048576) := HW.out.bd
        have hlen : (way (l.take k) []).length ≤ 1000000 := by have := HW.out.len; omega
        clear c0 c1 c2 HW1 HX HW
        generalize l.getD k nil0 = x at *
        generalize way (l.take k) [] = S at *
        obtain ⟨xk, xn, xc⟩ := x
        simp only at d0 d1 d2 x0 x1
        have hBsz : w1.heap.size ≤ wr.heap.size := HB.out.size
        obtain ⟨wB, hwB⟩ : ∃ wB, wB = wr.alloc (.cells #[.int .i64 xk, .int .u64 xn, .int .i64 xc] 37) := ⟨_, rfl⟩
        have HBB : Hid (Below wr.heap.size wr wB) := by rw [hwB]; exact (Below.refl _ _).alloc (Nat.le_refl _) _
        have KB : Hid (Blk wB wr.heap.size 37 [.int .i64 xk, .int .u64 xn, .int .i64 xc]) := by rw [hwB]; exact Blk.newA wr _ 37
        have HVB : Hid (W2 w1.heap.size wB vp vf S) := HV.out.later HBB.out
        have hBs2 : w1.heap.size ≤ wB.heap.size := Nat.le_trans hBsz HBB.out.size
        have HB2 : Hid (Below w1.heap.size w1 wB) := HB.out.trans (HBB.out.mono HB.out.size)
        clear HV HB HBB
        go_upto_region 9 with fail
        rw [← hwB]
        clear hwB d0 d1 d2
        have c2 : wB.cell? ⟨wr.heap.size, 2, none⟩ = some (.int .i64 xc) := KB.out.cell 2
        by_cases hx : 0 < xc
        · obtain ⟨gp, cp, w2, gf, cf, w3, r1, r2, HV3, HB3, HB4, hkeep⟩ := HVB.out.push (xc - 1) hlen hBs2
          have d2 : w2.cell? ⟨wr.heap.size, 2, none⟩ = some (.int .i64 xc) := (hkeep _ _ _ (by decide) KB.out).cell 2
          have HV4 : Hid _ := HV3
          have HB5 : Hid (Below w1.heap.size w1 w3) := HB2.out.trans HB4
          have HS2 : Hid (way (l.take (k + 1)) [] = (0, xc - 1) :: S) := by have := HS.out; rw [wstep, if_pos hx] at this; exact this
          have HW3 : Hid (WOK l (k + 1) (way (l.take (k + 1)) [])) := by rw [HS.out]; exact HW2.out
          have R1 : Hid _ := r1
          have R2 : Hid _ := r2
          clear HV3 HB3 HB4 hkeep HVB HX2 KB HB2 HW2 HS r1 r2
          go_wp2_with (first | (at_builtin; have _t := R1; refine wpList_append_run rfl (.tmp 29) (.tmp 30) 43 43 rfl rfl rfl R1.out ?_; clear R1) | (at_builtin; have _t := R2; refine wpList_append_run rfl (.tmp 32) (.tmp 36) 43 43 rfl rfl rfl R2.out ?_; clear R2))
          go_roundw
          case rel => exact ⟨k + 1, _, _, rfl, rfl, by omega, by go_num, HW3, by rw [HS2.out]; exact HV4.out, HB5⟩
          case measure => simp [intOf]; omega
        · obtain ⟨Z, j, f, T, rfl, hZ, hf, hS⟩ := HX2.out (by show xc = 0; omega)
          obtain ⟨gp, cp, gf, cf, rfl, rfl, bp, bf, hne, np, nf, mp, mf, zp, zf, kp, kf, HV3⟩ := HVB.out.back
          have HV4 : Hid _ := HV3
          have HS2 : Hid (way (l.take (k + 1)) [] = (j + 1, f - 1) :: T) := by have := HS.out; rw [hS] at this; exact this
          have HW3 : Hid (WOK l (k + 1) (way (l.take (k + 1)) [])) := by rw [HS.out]; exact HW2.out
          have HF : Hid (∀ i, i < Z.length + T.length + 1 → wB.cell? ⟨gf, i, none⟩ = some (.int .i64 ((leftL (Z ++ (j, f) :: T)).getD i 0))) := kf
          have HB5 : Hid (Below w1.heap.size w1 ((wB.setCell ⟨gp, T.length, none⟩ (.int .i64 (j + 1))).setCell ⟨gf, T.length, none⟩ (.int .i64 (f - 1)))) := (HB2.out.setCell bp _).setCell bf _
          have hzt : Z.length + T.length + 1 ≤ 1000000 := by simp at hlen; omega
          unfold maxLen at mp mf
          have hjb := HBD.out (j, f) (by simp)
          simp only at hjb
          clear HV3 HVB HX2 KB HW2 HS hS kf HB2 hlen
          go_wp2_with fail
          go_loopw [11] (fun i wx => ∃ (y : Nat), T.length ≤ y ∧ y < Z.length + T.length + 1 ∧ i = .int .i64 y ∧ wB = wx) (fun i _ => (intOf i).toNat)
          case atStart => exact ⟨Z.length + T.length, by omega, by omega, by go_num, rfl⟩
          case round =>
            obtain ⟨y, hy0, hy1, rfl, rfl⟩ := hrel
            have ky := HF.out y hy1
            by_cases hy : y = T.length
            · subst hy
              rw [left_at] at ky
              have hf0 : ¬ f = 0 := by omega
              clear HF
              have k2 : (wB.setCell ⟨gp, T.length, none⟩ (.int .i64 (j + 1))).cell? ⟨gf, T.length, none⟩ = some (.int .i64 f) := by
                rw [World.cell?_setCell_far _ _ _ _ hne]; exact ky
              have z2 : (wB.setCell ⟨gp, T.length, none⟩ (.int .i64 (j + 1))).frozen? ⟨gf, T.length, none⟩ = false := by rw [World.frozen?_setCell]; exact zf
              go_wp2_with fail
              go_region
              go_wp2
              go_roundw
              case rel => exact ⟨k + 1, _, _, rfl, rfl, by omega, by go_num, HW3, by rw [HS2.out]; exact HV4.out.later (Below.refl _ _).drew, HB5.out.drew⟩
              case measure => simp [intOf]; omega
            · rw [left_zero Z T j f hZ y (by omega) hy1] at ky
              have hy2 : (1 : Int) ≤ y := by omega
              go_wp2
              go_roundw
              case rel => exact ⟨y - 1, by omega, by omega, by go_num, trivial⟩
              case measure => simp [intOf]; omega
      · obtain rfl : k = q := by omega
        go_wp2
        go_ret2
        exact ⟨_, by rw [HP.out]; rfl, by rw [HR.out, pathL_len]; exact own_base HV.out.p hB1.size, hB1.trans (HB.out.mono hB1.size)⟩
  · go_wp2
    go_ret2
    exact ⟨_, rfl, by rw [pathR, if_neg h]; exact World.ownsRow_nil _ _ _ _, hB1⟩
end Go.Proofs.YtlbgdgobhiokpaaDoor
