import Derived.Test.YtcmkdkocponpiaaPart19
import Derived.Deep.RegionLaw
import Derived.Test.YtcmkdkocponpiaaPart20
import Derived.Test.YtcmkdkocponpiaaPart21
import Derived.Test.YtcmkdkocponpiaaPart16

/- The book of mortiselaw22: table, bytes. -/
namespace Go.Proofs.Ytcmkdkocponpiaa
open Go.RowKit
set_option linter.unusedVariables false

set_option maxRecDepth 100000 in
set_option maxHeartbeats 4000000 in
theorem table_any (B bt : Nat) (p0 p1 q0 q1 vT vM vB vN : Value) (N : Nat) (F G : Nat → Value) (s : Nat → Nat) (v : Value) (D : List Int) (w : World) (hb : Hid (HbSt 37 3 .i64 mvT B w bt 4 [p0, p1, q0, q1, vT, vM, vB, vN] vT vM N F G s)) (hv : Hid (w.ownsRow B 3 1 v D.length (cellsL .i64 D))) (hap : Hid (∀ q, v.ownBlock = some q → ¬ FK vT vM N F G q)) (hN : N ≤ 900) (hk : D.length ≤ 1100000) :
    Calls Try.prog 58 #[.pointer (some ⟨bt, 4, none⟩), v] w fun e w' => e = .returned (.tuple #[]) ∧ Hid (KeepK 37 3 .i64 mvT B w w' bt 4 [p0, p1, q0, q1, vT, vM, vB, vN] vT vM N F G v) := by
  obtain ⟨⟨aL, cL, rfl⟩, ⟨aM, cM, rfl⟩⟩ := hb.out.h.is
  obtain ⟨m, hm⟩ : ∃ m, mvT N = m := ⟨_, rfl⟩
  have hmv : -5 - (N : Int) = m := by rw [← hm]; rfl
  have c2 := hb.out.t.cell 4
  simp only [List.getElem?_cons_zero, List.getElem?_cons_succ] at c2
  have hlt : ∀ q, v.ownBlock = some q → q < w.heap.size := fun q hq => (hv.out.lt q hq).2
  rcases hv.out.2 with ⟨rfl, h0⟩ | ⟨g, cap, cur, rfl, _⟩
  · have hD : D = [] := List.length_eq_zero_iff.1 h0
    subst hD
    obtain ⟨g1, c1, w1, g3, c3, w3, g4, c4, w4, r1, ⟨u0, d0⟩, z0, w2, hw2, ⟨k0, k1, k2, k3⟩, r3, r4, ⟨u1, d1⟩, z1, KT⟩ := list_end (k := 0) kdT hb.out (by omega) (Nat.zero_le _) (by decide) hv.out rfl hap.out (Upd.refl _ w) (fun q hq => hlt q hq)
    rw [hm] at r3
    have R1 := hide_ r1
    have R3 := hide_ r3
    have R4 := hide_ r4
    have HKT := hide_ KT
    clear r1 r3 r4 KT hv hb hap hlt hm
    go_enter Try.func58, Try.ntmps58
    go_wp2_with fail
    go_loop [5] (fun i => i = .int .i64 0) (fun _ => 0)
    case atStart => rfl
    case round =>
      subst hrel
      go_upto_region 6 with (first | (at_builtin; have _t := R1; refine wpList_append_run rfl (.tmp 26) (.tmp 28) 55 55 rfl rfl rfl R1.out ?_; clear R1))
      rw [← hw2]
      clear hw2 d0 z0
      go_region_law (first
        | (refine step_append_run rfl (.tmp 37) (.tmp 39) 37 37 rfl rfl rfl R3.out ?_)
        | (refine step_append_run rfl (.tmp 36) (.tmp 41) 55 55 rfl rfl rfl R4.out ?_))
      all_goals
        go_wp2
        go_end0
        exact ⟨rfl, HKT⟩
  · have hgf := hap.out g rfl
    have hgw := hlt g rfl
    have HF0 : Hid (FillK 37 3 .i64 mvT B w w bt 4 [p0, p1, q0, q1, .slice aL N cL, .slice aM N cM, vB, vN] (.slice aL N cL) (.slice aM N cM) N F G s g cap D.length 0) := ⟨hb.out, ⟨D, hv.out, rfl, fun j hj => by omega⟩, hgf, Upd.refl _ _⟩
    obtain ⟨k, hkD⟩ : ∃ k, D.length = k := ⟨_, rfl⟩
    rw [hkD] at HF0 hk ⊢
    have hone : (Value.slice (some ⟨g, 0, none⟩) k cap).oneCell' = true := rfl
    clear hv hb hlt
    go_enter Try.func58, Try.ntmps58
    go_wp2_with fail
    go_loopw [5] (fun xi wr => ∃ i : Nat, i ≤ k ∧ xi = .int .i64 i ∧ Hid (FillK 37 3 .i64 mvT B w wr bt 4 [p0, p1, q0, q1, .slice aL N cL, .slice aM N cM, vB, vN] (.slice aL N cL) (.slice aM N cM) N F G s g cap k i)) (fun xi _ => k - (intOf xi).toNat)
    case atStart => exact ⟨0, Nat.zero_le _, rfl, HF0⟩
    case round =>
      clear HF0
      obtain ⟨i, hi, rfl, HF⟩ := hrel
      by_cases hik : i < k
      · have hik' : (i : Int) < k := by omega
        obtain ⟨⟨x0, b0⟩, hz, f2⟩ := HF.out.step kdT.et hik
        rw [hm] at f2
        have HF2 := hide_ f2
        clear f2 HF hm
        go_wp2
        go_roundw
        case rel => exact ⟨i + 1, by omega, by go_num, HF2⟩
        case measure => simp [intOf]; omega
      · obtain rfl : i = k := by omega
        have hnl : ¬ ((i : Int) < (i : Int)) := by omega
        obtain ⟨g1, c1, w1, g3, c3, w3, g4, c4, w4, r1, ⟨u0, d0⟩, z0, w2, hw2, ⟨k0, k1, k2, k3⟩, r3, r4, ⟨u1, d1⟩, z1, KT⟩ := list_end (w0 := w) (v := .slice (some ⟨g, 0, none⟩) i cap) kdT HF.out.bk (by omega) (by omega) (by omega) HF.out.full rfl (fun q hq => by injection hq with hq; have e : g = q := hq; subst e; exact hgf) (HF.out.upd.mono fun q _ h => by subst h; rfl) (fun q hq => by injection hq with hq; have e : g = q := hq; subst e; exact hgw)
        rw [hm] at r3
        have R1 := hide_ r1
        have R3 := hide_ r3
        have R4 := hide_ r4
        have HKT := hide_ KT
        have e0 := HF.out.bk.t.cell 4
        simp only [List.getElem?_cons_zero, List.getElem?_cons_succ] at e0
        clear r1 r3 r4 KT HF hap hm
        go_upto_region 6 with (first | (at_builtin; have _t := R1; refine wpList_append_run rfl (.tmp 26) (.tmp 28) 55 55 rfl rfl rfl R1.out ?_; clear R1))
        rw [← hw2]
        clear hw2 d0 z0
        go_region_law (first
          | (refine step_append_run rfl (.tmp 37) (.tmp 39) 37 37 rfl rfl rfl R3.out ?_)
          | (refine step_append_run rfl (.tmp 36) (.tmp 41) 55 55 rfl rfl rfl R4.out ?_))
        all_goals
          go_wp2
          go_end0
          exact ⟨rfl, HKT⟩
end Go.Proofs.Ytcmkdkocponpiaa

/- The book of mortiselaw22: bytes. -/
namespace Go.Proofs.Ytcmkdkocponpiaa
open Go.RowKit
set_option linter.unusedVariables false

set_option maxRecDepth 100000 in
set_option maxHeartbeats 4000000 in
theorem bytes_any (B bt : Nat) (p0 p1 q0 q1 vT vM vB vN : Value) (N : Nat) (F G : Nat → Value) (s : Nat → Nat) (v : Value) (D : List Int) (w : World) (hb : Hid (HbSt 23 5 .u8 mvB B w bt 6 [p0, p1, q0, q1, vT, vM, vB, vN] vB vN N F G s)) (hv : Hid (w.ownsRow B 5 1 v D.length (cellsL .u8 D))) (hap : Hid (∀ q, v.ownBlock = some q → ¬ FK vB vN N F G q)) (hN : N ≤ 900) (hk : D.length ≤ 19000000000000) :
    Calls Try.prog 67 #[.pointer (some ⟨bt, 4, none⟩), v] w fun e w' => e = .returned (.tuple #[]) ∧ Hid (KeepK 23 5 .u8 mvB B w w' bt 6 [p0, p1, q0, q1, vT, vM, vB, vN] vB vN N F G v) := by
  obtain ⟨⟨aL, cL, rfl⟩, ⟨aM, cM, rfl⟩⟩ := hb.out.h.is
  obtain ⟨m, hm⟩ : ∃ m, mvB N = m := ⟨_, rfl⟩
  have hmv : IntKind.u8.wrap (7 * (N : Int) + 1) = m := by rw [← hm]; rw [IntKind.wrap_u8]; rfl
  have c2 := hb.out.t.cell 6
  simp only [List.getElem?_cons_zero, List.getElem?_cons_succ] at c2
  have hlt : ∀ q, v.ownBlock = some q → q < w.heap.size := fun q hq => (hv.out.lt q hq).2
  rcases hv.out.2 with ⟨rfl, h0⟩ | ⟨g, cap, cur, rfl, _⟩
  · have hD : D = [] := List.length_eq_zero_iff.1 h0
    subst hD
    obtain ⟨g1, c1, w1, g3, c3, w3, g4, c4, w4, r1, ⟨u0, d0⟩, z0, w2, hw2, ⟨k0, k1, k2, k3⟩, r3, r4, ⟨u1, d1⟩, z1, KT⟩ := list_end (k := 0) kdB hb.out (by omega) (Nat.zero_le _) (by decide) hv.out rfl hap.out (Upd.refl _ w) (fun q hq => hlt q hq)
    rw [hm] at r3
    have R1 := hide_ r1
    have R3 := hide_ r3
    have R4 := hide_ r4
    have HKT := hide_ KT
    clear r1 r3 r4 KT hv hb hap hlt hm
    go_enter Try.func67, Try.ntmps67
    go_wp2_with fail
    go_loop [5] (fun i => i = .int .i64 0) (fun _ => 0)
    case atStart => rfl
    case round =>
      subst hrel
      go_upto_region 6 with (first | (at_builtin; have _t := R1; refine wpList_append_run rfl (.tmp 28) (.tmp 30) 56 56 rfl rfl rfl R1.out ?_; clear R1))
      rw [← hw2]
      clear hw2 d0 z0
      go_region_law (first
        | (refine step_append_run rfl (.tmp 39) (.tmp 41) 23 23 rfl rfl rfl R3.out ?_)
        | (refine step_append_run rfl (.tmp 38) (.tmp 43) 56 56 rfl rfl rfl R4.out ?_))
      all_goals
        go_wp2
        go_end0
        exact ⟨rfl, HKT⟩
  · have hgf := hap.out g rfl
    have hgw := hlt g rfl
    have HF0 : Hid (FillK 23 5 .u8 mvB B w w bt 6 [p0, p1, q0, q1, vT, vM, .slice aL N cL, .slice aM N cM] (.slice aL N cL) (.slice aM N cM) N F G s g cap D.length 0) := ⟨hb.out, ⟨D, hv.out, rfl, fun j hj => by omega⟩, hgf, Upd.refl _ _⟩
    obtain ⟨k, hkD⟩ : ∃ k, D.length = k := ⟨_, rfl⟩
    rw [hkD] at HF0 hk ⊢
    have hone : (Value.slice (some ⟨g, 0, none⟩) k cap).oneCell' = true := rfl
    clear hv hb hlt
    go_enter Try.func67, Try.ntmps67
    go_wp2_with fail
    go_loopw [5] (fun xi wr => ∃ i : Nat, i ≤ k ∧ xi = .int .i64 i ∧ Hid (FillK 23 5 .u8 mvB B w wr bt 6 [p0, p1, q0, q1, vT, vM, .slice aL N cL, .slice aM N cM] (.slice aL N cL) (.slice aM N cM) N F G s g cap k i)) (fun xi _ => k - (intOf xi).toNat)
    case atStart => exact ⟨0, Nat.zero_le _, rfl, HF0⟩
    case round =>
      clear HF0
      obtain ⟨i, hi, rfl, HF⟩ := hrel
      by_cases hik : i < k
      · have hik' : (i : Int) < k := by omega
        obtain ⟨⟨x0, b0⟩, hz, f2⟩ := HF.out.step kdB.et hik
        rw [hm] at f2
        have HF2 := hide_ f2
        clear f2 HF hm
        go_wp2
        go_roundw
        case rel => exact ⟨i + 1, by omega, by go_num, HF2⟩
        case measure => simp [intOf]; omega
      · obtain rfl : i = k := by omega
        have hnl : ¬ ((i : Int) < (i : Int)) := by omega
        obtain ⟨g1, c1, w1, g3, c3, w3, g4, c4, w4, r1, ⟨u0, d0⟩, z0, w2, hw2, ⟨k0, k1, k2, k3⟩, r3, r4, ⟨u1, d1⟩, z1, KT⟩ := list_end (w0 := w) (v := .slice (some ⟨g, 0, none⟩) i cap) kdB HF.out.bk (by omega) (by omega) (by omega) HF.out.full rfl (fun q hq => by injection hq with hq; have e : g = q := hq; subst e; exact hgf) (HF.out.upd.mono fun q _ h => by subst h; rfl) (fun q hq => by injection hq with hq; have e : g = q := hq; subst e; exact hgw)
        rw [hm] at r3
        have R1 := hide_ r1
        have R3 := hide_ r3
        have R4 := hide_ r4
        have HKT := hide_ KT
        have e0 := HF.out.bk.t.cell 6
        simp only [List.getElem?_cons_zero, List.getElem?_cons_succ] at e0
        clear r1 r3 r4 KT HF hap hm
        go_upto_region 6 with (first | (at_builtin; have _t := R1; refine wpList_append_run rfl (.tmp 28) (.tmp 30) 56 56 rfl rfl rfl R1.out ?_; clear R1))
        rw [← hw2]
        clear hw2 d0 z0
        go_region_law (first
          | (refine step_append_run rfl (.tmp 39) (.tmp 41) 23 23 rfl rfl rfl R3.out ?_)
          | (refine step_append_run rfl (.tmp 38) (.tmp 43) 56 56 rfl rfl rfl R4.out ?_))
        all_goals
          go_wp2
          go_end0
          exact ⟨rfl, HKT⟩
end Go.Proofs.Ytcmkdkocponpiaa

/- mortiselaw22: the book's holds. -/
namespace Go.Proofs.Ytcmkdkocponpiaa
open Go.RowKit
set_option linter.unusedVariables false

/-- Row number k of a half, and the longer one. -/
theorem half_at {te e c B : Nat} {mk : Nat → Nat → List Value} {w : World} {vL vM : Value} {N : Nat} {F G : Nat → Value} {s : Nat → Nat} (b : Half te e c mk B w vL vM N F G s) (k : Nat) (hk : k < N) :
    ∃ qL cL qM cM aF cF gM cG, vL = .slice (some ⟨qL, 0, none⟩) N cL ∧ vM = .slice (some ⟨qM, 0, none⟩) N cM ∧ w.cell? ⟨qL, k, none⟩ = some (.slice aF (s k) cF) ∧ w.cell? ⟨qM, k, none⟩ = some (.slice (some ⟨gM, 0, none⟩) (s k + 1) cG) ∧
      (∀ j, j < (s k + 1) * c → w.cell? ⟨gM, j, none⟩ = (mk (s k + 1) k)[j]?) ∧ (0 < s k → ∃ gL, aF = some ⟨gL, 0, none⟩ ∧ ∀ j, j < s k * c → w.cell? ⟨gL, j, none⟩ = (mk (s k) k)[j]?) ∧ N ≤ cL ∧ N ≤ cM ∧ s k ≤ cF ∧ s k + 1 ≤ cG := by
  obtain ⟨qL, cL, rfl, _, h1, _, hL⟩ := b.rL.open (by omega)
  obtain ⟨qM, cM, rfl, _, h2, _, hM⟩ := b.rM.open (by omega)
  have d1 := hL k hk
  have d2 := hM k hk
  obtain ⟨gM, cG, ys, e1, q1, q2, q3, q4, q5, q6⟩ := ownS_blk (b.m k hk) (by omega)
  rw [e1] at d2
  have hat : ∀ j, j < (s k + 1) * c → w.cell? ⟨gM, j, none⟩ = (mk (s k + 1) k)[j]? := fun j hj => by
    rw [q6.cell, ← q5, List.getElem?_take, if_pos hj]
  rcases (b.l k hk).2 with ⟨e2, h0⟩ | ⟨g, cap, cur, e2, p1, p2, p3, p4, p5, p6⟩
  · rw [e2] at d1
    rw [h0] at d2 hat q2 ⊢
    exact ⟨qL, cL, qM, cM, none, 0, gM, cG, rfl, rfl, d1, d2, hat, fun h => by omega, h1, h2, Nat.le_refl _, q2⟩
  · rw [e2] at d1
    have hK : Blk w g e cur.toList := by unfold Blk; rw [Array.toArray_toList]; exact p2
    exact ⟨qL, cL, qM, cM, _, _, gM, cG, rfl, rfl, d1, d2, hat, fun _ => ⟨g, rfl, fun j hj => by rw [hK.cell, ← p6, List.getElem?_take, if_pos hj]⟩, h1, h2, p3, q2⟩
theorem mkK_at (K : IntKind) (mv : Nat → Int) (k j i : Nat) (hi : i < k) : (mkK K mv k j)[i]? = some (.int K (mv j)) := by
  unfold mkK
  rw [cellsL_at _ _ i (by simpa using hi)]
  simp [List.getD, hi]
set_option maxHeartbeats 4000000 in
set_option maxRecDepth 100000 in
theorem holds_any (B bt : Nat) (p0 p1 q0 q1 vL vM pL pM : Value) (N Np : Nat) (F G Fp Gp : Nat → Value) (s sp : Nat → Nat) (w : World) (hb : Hid (HbSt 37 3 .i64 mvT B w bt 4 [p0, p1, q0, q1, vL, vM, pL, pM] vL vM N F G s)) (hp : Hid (Half 23 5 1 (mkK .u8 mvB) B w pL pM Np Fp Gp sp)) (hN : N ≤ 1000) (hNp : Np ≤ 1000) :
    Calls Try.prog 26 #[.pointer (some ⟨bt, 4, none⟩)] w fun e w' => e = .returned (.bool true) ∧ w = w' := by
  obtain ⟨⟨aL, cL, rfl⟩, ⟨aM, cM, rfl⟩⟩ := hb.out.h.is
  obtain ⟨⟨aP, cP, rfl⟩, ⟨aQ, cQ, rfl⟩⟩ := hp.out.is
  have c0 := hb.out.t.cell 4
  have c1 := hb.out.t.cell 5
  have c2 := hb.out.t.cell 6
  have c3 := hb.out.t.cell 7
  simp only [List.getElem?_cons_zero, List.getElem?_cons_succ] at c0 c1 c2 c3
  go_enter Try.func26, Try.ntmps26
  go_wp2_with fail
  go_loopw [3] (fun xk wr => ∃ k : Nat, k ≤ N ∧ xk = .int .i64 k ∧ w = wr) (fun xk _ => N - (intOf xk).toNat)
  case atStart => exact ⟨0, Nat.zero_le _, rfl, rfl⟩
  case round =>
    obtain ⟨k, hk, rfl, rfl⟩ := hrel
    by_cases hkN : k < N
    · have hkN' : (k : Int) < N := by omega
      obtain ⟨qL, cL', qM, cM', aF, cF, gM, cG, e1, e2, dL, dM, dm, dl, n1, n2, n3, n4⟩ := half_at hb.out.h k hkN
      have e1' : aL = some ⟨qL, 0, none⟩ ∧ cL = cL' := by simpa using e1
      have e2' : aM = some ⟨qM, 0, none⟩ ∧ cM = cM' := by simpa using e2
      obtain ⟨rfl, rfl⟩ := e1'
      obtain ⟨rfl, rfl⟩ := e2'
      have hsm := hb.out.h.small k hkN
      obtain ⟨sk, hsk⟩ : ∃ sk, s k = sk := ⟨_, rfl⟩
      rw [hsk] at dL dM dm dl n3 n4 hsm
      clear e1 e2 hsk
      have Dm := hide_ dm
      have Dl := hide_ dl
      clear dm dl
      go_wp2_with fail
      go_loopw [4] (fun xi wx => ∃ i : Nat, i ≤ sk + 1 ∧ xi = .int .i64 i ∧ w = wx) (fun xi _ => sk + 1 - (intOf xi).toNat)
      case atStart => exact ⟨0, Nat.zero_le _, rfl, rfl⟩
      case round =>
        obtain ⟨i, hi, rfl, rfl⟩ := hrel
        by_cases his : i < sk
        · have his' : (i : Int) < sk := by omega
          have his2 : (i : Int) < (sk : Int) + 1 := by omega
          obtain ⟨gL, rfl, dl2⟩ := Dl.out (by omega)
          have x1 := Dm.out i (by omega)
          rw [mkK_at _ _ _ _ _ (by omega)] at x1
          have x2 := dl2 i (by omega)
          rw [mkK_at _ _ _ _ _ his] at x2
          simp only [mvT] at x1 x2
          clear dl2
          go_wp2
          go_roundw
          case rel => exact ⟨i + 1, by omega, by go_num, trivial⟩
          case measure => simp [intOf]; omega
        · by_cases hie : i = sk
          · subst hie
            have hdf : ¬ ((i : Int) < (i : Int)) := by omega
            have his2 : (i : Int) < (i : Int) + 1 := by omega
            have x1 := Dm.out i (by omega)
            rw [mkK_at _ _ _ _ _ (by omega)] at x1
            simp only [mvT] at x1
            go_wp2
            go_roundw
            case rel => exact ⟨i + 1, by omega, by go_num, trivial⟩
            case measure => simp [intOf]
          · obtain rfl : i = sk + 1 := by omega
            have his2 : ¬ ((sk + 1 : Nat) : Int) < (sk : Int) + 1 := by omega
            clear hie his
            go_wp2
            go_roundw
            case rel => exact ⟨k + 1, by omega, by go_num, trivial⟩
            case measure => simp [intOf]; omega
    · obtain rfl : k = N := by omega
      have hnl : ¬ ((k : Int) < (k : Int)) := by omega
      go_wp2_with fail
      go_loopw [5] (fun xk wr => ∃ k : Nat, k ≤ Np ∧ xk = .int .i64 k ∧ w = wr) (fun xk _ => Np - (intOf xk).toNat)
      case atStart => exact ⟨0, Nat.zero_le _, rfl, rfl⟩
      case round =>
        clear hnl hkN
        obtain ⟨j, hj, rfl, rfl⟩ := hrel
        by_cases hjN : j < Np
        · have hjN' : (j : Int) < Np := by omega
          obtain ⟨qL, cL', qM, cM', aF, cF, gM, cG, e1, e2, dL, dM, dm, dl, n1, n2, n3, n4⟩ := half_at hp.out j hjN
          have e1' : aP = some ⟨qL, 0, none⟩ ∧ cP = cL' := by simpa using e1
          have e2' : aQ = some ⟨qM, 0, none⟩ ∧ cQ = cM' := by simpa using e2
          obtain ⟨rfl, rfl⟩ := e1'
          obtain ⟨rfl, rfl⟩ := e2'
          have hsm := hp.out.small j hjN
          obtain ⟨m, hm0⟩ : ∃ m, mvB j = m := ⟨_, rfl⟩
          have hmv : IntKind.u8.wrap (7 * (j : Int) + 1) = m := by rw [← hm0, IntKind.wrap_u8]; rfl
          have hm := hide_ hm0
          clear hm0
          obtain ⟨sk, hsk⟩ : ∃ sk, sp j = sk := ⟨_, rfl⟩
          rw [hsk] at dL dM dm dl n3 n4 hsm
          clear e1 e2 hsk
          have Dm := hide_ dm
          have Dl := hide_ dl
          clear dm dl
          go_wp2_with fail
          go_loopw [7] (fun xi wx => ∃ i : Nat, i ≤ sk + 1 ∧ xi = .int .i64 i ∧ w = wx) (fun xi _ => sk + 1 - (intOf xi).toNat)
          case atStart => exact ⟨0, Nat.zero_le _, rfl, rfl⟩
          case round =>
            obtain ⟨i, hi, rfl, rfl⟩ := hrel
            by_cases his : i < sk
            · have his' : (i : Int) < sk := by omega
              have his2 : (i : Int) < (sk : Int) + 1 := by omega
              obtain ⟨gL, rfl, dl2⟩ := Dl.out (by omega)
              have x1 := Dm.out i (by omega)
              rw [mkK_at _ _ _ _ _ (by omega), hm.out] at x1
              have x2 := dl2 i (by omega)
              rw [mkK_at _ _ _ _ _ his, hm.out] at x2
              clear dl2
              go_wp2
              go_roundw
              case rel => exact ⟨i + 1, by omega, by go_num, trivial⟩
              case measure => simp [intOf]; omega
            · by_cases hie : i = sk
              · subst hie
                have hdf : ¬ ((i : Int) < (i : Int)) := by omega
                have his2 : (i : Int) < (i : Int) + 1 := by omega
                have x1 := Dm.out i (by omega)
                rw [mkK_at _ _ _ _ _ (by omega), hm.out] at x1
                go_wp2
                go_roundw
                case rel => exact ⟨i + 1, by omega, by go_num, trivial⟩
                case measure => simp [intOf]
              · obtain rfl : i = sk + 1 := by omega
                have his2 : ¬ ((sk + 1 : Nat) : Int) < (sk : Int) + 1 := by omega
                clear hie his
                go_wp2
                go_roundw
                case rel => exact ⟨j + 1, by omega, by go_num, trivial⟩
                case measure => simp [intOf]; omega
        · obtain rfl : j = Np := by omega
          have hnl : ¬ ((j : Int) < (j : Int)) := by omega
          go_wp2
          go_ret
          exact ⟨rfl, rfl⟩
end Go.Proofs.Ytcmkdkocponpiaa

/- mortiselaw22: the table: two stacks of each kind, and the book. -/
namespace Go.Proofs.Ytcmkdkocponpiaa
open Go.RowKit
set_option linter.unusedVariables false

def up1 {α : Type} (x : Nat → α) (i : Nat) (y : α) : Nat → α := fun j => if j = i then y else x j
theorem up1_at {α : Type} (x : Nat → α) (i : Nat) (y : α) : up1 x i y i = y := if_pos rfl
theorem up1_ne {α : Type} (x : Nat → α) {i j : Nat} (y : α) (h : j ≠ i) : up1 x i y j = x j := if_neg h
abbrev Sk := List Fr × Int × Int
/-- One of the program's stacks, if there is one. -/
def PSt (w : World) (B : Nat) (v : Value) (F : Nat → Prop) (x : Option Sk) : Prop := (x = none ∧ v = .pointer none) ∨ ∃ g y, x = some y ∧ v = .pointer (some ⟨g, 0, none⟩) ∧ Stk w B F g y.1 y.2.1 y.2.2
def QSt (w : World) (B : Nat) (v : Value) (F : Nat → Prop) (x : Option Sk) : Prop := (x = none ∧ v = .pointer none) ∨ ∃ g y, x = some y ∧ v = .pointer (some ⟨g, 0, none⟩) ∧ RSk w B F g y.1 y.2.1 y.2.2
theorem PSt.upd {w w' : World} {B : Nat} {v : Value} {F T : Nat → Prop} {x : Option Sk} (h : PSt w B v F x) (hu : Upd T w w') (hs : ∀ k, F k → ¬ T k) : PSt w' B v F x := by
  rcases h with h | ⟨g, y, h1, h2, h3⟩
  · exact .inl h
  · exact .inr ⟨g, y, h1, h2, h3.upd hu hs⟩
theorem QSt.upd {w w' : World} {B : Nat} {v : Value} {F T : Nat → Prop} {x : Option Sk} (h : QSt w B v F x) (hu : Upd T w w') (hs : ∀ k, F k → ¬ T k) : QSt w' B v F x := by
  rcases h with h | ⟨g, y, h1, h2, h3⟩
  · exact .inl h
  · exact .inr ⟨g, y, h1, h2, h3.upd hu hs⟩
theorem PSt.open {w : World} {B : Nat} {v : Value} {F : Nat → Prop} {y : Sk} (h : PSt w B v F (some y)) : ∃ g, v = .pointer (some ⟨g, 0, none⟩) ∧ Stk w B F g y.1 y.2.1 y.2.2 := by
  rcases h with ⟨h, -⟩ | ⟨g, z, h1, h2, h3⟩
  · cases h
  · injection h1 with h1; subst h1; exact ⟨g, h2, h3⟩
theorem QSt.open {w : World} {B : Nat} {v : Value} {F : Nat → Prop} {y : Sk} (h : QSt w B v F (some y)) : ∃ g, v = .pointer (some ⟨g, 0, none⟩) ∧ RSk w B F g y.1 y.2.1 y.2.2 := by
  rcases h with ⟨h, -⟩ | ⟨g, z, h1, h2, h3⟩
  · cases h
  · injection h1 with h1; subst h1; exact ⟨g, h2, h3⟩
/-- The book within the table at bt; its blocks are among Z. -/
def Bok (B : Nat) (w : World) (bt : Nat) (p0 p1 q0 q1 : Value) (N : Nat) (Z : Nat → Prop) : Prop :=
  ∃ vT vM vB vN NT NB FT GT sT FB GB sB, HbSt 37 3 .i64 mvT B w bt 4 [p0, p1, q0, q1, vT, vM, vB, vN] vT vM NT FT GT sT ∧ Half 23 5 1 (mkK .u8 mvB) B w vB vN NB FB GB sB ∧ NT ≤ N ∧ NB ≤ N ∧ ∀ q, FK vT vM NT FT GT q ∨ FK vB vN NB FB GB q → Z q
section
variable {B : Nat} {w w' w1 : World} {bt N : Nat} {p0 p1 q0 q1 : Value} {Z : Nat → Prop}
theorem Bok.tab (h : Bok B w bt p0 p1 q0 q1 N Z) : B ≤ bt ∧ ∃ a b c d, Blk w bt 60 [p0, p1, q0, q1, a, b, c, d] := by
  obtain ⟨vT, vM, vB, vN, NT, NB, FT, GT, sT, FB, GB, sB, h1, h2, h3, h4, h5⟩ := h
  exact ⟨h1.hb, _, _, _, _, h1.t⟩
theorem Bok.upd {T : Nat → Prop} (h : Bok B w bt p0 p1 q0 q1 N Z) (hu : Upd T w w') (hb : ¬ T bt) (hs : ∀ q, Z q → ¬ T q) : Bok B w' bt p0 p1 q0 q1 N Z := by
  obtain ⟨vT, vM, vB, vN, NT, NB, FT, GT, sT, FB, GB, sB, h1, h2, h3, h4, h5⟩ := h
  exact ⟨vT, vM, vB, vN, NT, NB, FT, GT, sT, FB, GB, sB, h1.upd hu (fun q hq => hq.elim (fun e => by rw [e]; exact hb) (fun h => hs q (h5 q (.inl h)))), h2.upd hu (fun q hq => hs q (h5 q (.inr hq))), h3, h4, h5⟩
theorem Bok.mono {M : Nat} (h : Bok B w bt p0 p1 q0 q1 N Z) (hN : N ≤ M) : Bok B w bt p0 p1 q0 q1 M Z := by
  obtain ⟨vT, vM, vB, vN, NT, NB, FT, GT, sT, FB, GB, sB, h1, h2, h3, h4, h5⟩ := h
  exact ⟨vT, vM, vB, vN, NT, NB, FT, GT, sT, FB, GB, sB, h1, h2, Nat.le_trans h3 hN, Nat.le_trans h4 hN, h5⟩
/-- The stacks' pointers are written over. -/
theorem Bok.ptr (h : Bok B w bt p0 p1 q0 q1 N Z) (hZ : ∀ q, Z q → q ≠ bt) (hu : Upd (fun k => k = bt) w w') {p0' p1' q0' q1' : Value} (hk : ∀ a b c d, Blk w bt 60 [p0, p1, q0, q1, a, b, c, d] → Blk w' bt 60 [p0', p1', q0', q1', a, b, c, d]) : Bok B w' bt p0' p1' q0' q1' N Z := by
  obtain ⟨vT, vM, vB, vN, NT, NB, FT, GT, sT, FB, GB, sB, h1, h2, h3, h4, h5⟩ := h
  exact ⟨vT, vM, vB, vN, NT, NB, FT, GT, sT, FB, GB, sB, ⟨h1.h.upd hu (fun q hq => hZ q (h5 q (.inl hq))), hk _ _ _ _ h1.t, rfl, rfl, h1.hb⟩, h2.upd hu (fun q hq => hZ q (h5 q (.inr hq))), h3, h4, h5⟩
/-- One more list of integers, of bytes. -/
theorem bok_table {v : Value} {D : List Int} (h : Bok B w bt p0 p1 q0 q1 N Z) (hv : IOwn w B v D) (hn : ∀ q, v.ownBlock = some q → ¬ Z q) (hN : N ≤ 800) (hD : D.length ≤ 1100000) :
    Calls Try.prog 58 #[.pointer (some ⟨bt, 4, none⟩), v] w fun e w' => e = .returned (.tuple #[]) ∧ Hid (∃ Z', Bok B w' bt p0 p1 q0 q1 (N + 1) Z' ∧ Upd (fun q => q = bt ∨ v.ownBlock = some q ∨ Z q) w w' ∧ ∀ q, Z' q → (Z q ∨ v.ownBlock = some q ∨ w.heap.size ≤ q) ∧ B ≤ q ∧ q < w'.heap.size ∧ q ≠ bt) := by
  obtain ⟨vT, vM, vB, vN, NT, NB, FT, GT, sT, FB, GB, sB, h1, h2, h3, h4, h5⟩ := h
  refine (table_any B bt p0 p1 q0 q1 vT vM vB vN NT FT GT sT v D w h1 hv (fun q hq e => hn q hq (h5 q (.inl e))) (by omega) hD).mono ?_
  rintro e w' ⟨rfl, HK⟩
  refine ⟨rfl, ?_⟩
  obtain ⟨vT', vM', F', G', s', k1, k2, k3⟩ := HK.out
  have h2' : Half 23 5 1 (mkK .u8 mvB) B w' vB vN NB FB GB sB := h2.upd k2 fun q hq e => by
    obtain ⟨ys, hy⟩ := h2.type hq
    rcases e with rfl | e | e
    · rcases hy with hy | hy
      · exact absurd (blk_type h1.t hy) (by decide)
      · exact absurd (blk_type h1.t hy) (by decide)
    · obtain ⟨zs, hz⟩ := ownS_type hv e
      rcases hy with hy | hy
      · exact absurd (blk_type hz hy) (by decide)
      · exact absurd (blk_type hz hy) (by decide)
    · obtain ⟨zs, hz⟩ := h1.h.type e
      rcases hy with hy | hy <;> rcases hz with hz | hz
      all_goals exact absurd (blk_type hz hy) (by decide)
  refine ⟨fun q => FK vT' vM' (NT + 1) F' G' q ∨ FK vB vN NB FB GB q, ⟨vT', vM', vB, vN, NT + 1, NB, F', G', s', FB, GB, sB, k1, h2', by omega, by omega, fun q hq => hq⟩, k2.mono (fun q _ hq => ?_), fun q hq => ⟨?_, ?_⟩⟩
  · rcases hq with hq | hq | hq
    · exact .inl hq
    · exact .inr (.inl hq)
    · exact .inr (.inr (h5 q (.inl hq)))
  · rcases hq with hq | hq
    · rcases k3 q hq with h | h | h
      · exact .inl (h5 q (.inl h))
      · exact .inr (.inl h)
      · exact .inr (.inr h)
    · exact .inl (h5 q (.inr hq))
  · rcases hq with hq | hq
    · exact ⟨(k1.h.lt q hq).1, (k1.h.lt q hq).2, fun e => by subst e; exact k1.h.off k1.t (by decide) (by decide) hq⟩
    · exact ⟨(h2'.lt q hq).1, (h2'.lt q hq).2, fun e => by subst e; exact h2'.off k1.t (by decide) (by decide) hq⟩
theorem bok_bytes {v : Value} {D : List Int} (h : Bok B w bt p0 p1 q0 q1 N Z) (hv : BOwn w B v D) (hn : ∀ q, v.ownBlock = some q → ¬ Z q) (hN : N ≤ 800) (hD : D.length ≤ 19000000000000) :
    Calls Try.prog 67 #[.pointer (some ⟨bt, 4, none⟩), v] w fun e w' => e = .returned (.tuple #[]) ∧ Hid (∃ Z', Bok B w' bt p0 p1 q0 q1 (N + 1) Z' ∧ Upd (fun q => q = bt ∨ v.ownBlock = some q ∨ Z q) w w' ∧ ∀ q, Z' q → (Z q ∨ v.ownBlock = some q ∨ w.heap.size ≤ q) ∧ B ≤ q ∧ q < w'.heap.size ∧ q ≠ bt) := by
  obtain ⟨vT, vM, vB, vN, NT, NB, FT, GT, sT, FB, GB, sB, h1, h2, h3, h4, h5⟩ := h
  refine (bytes_any B bt p0 p1 q0 q1 vT vM vB vN NB FB GB sB v D w ⟨h2, h1.t, rfl, rfl, h1.hb⟩ hv (fun q hq e => hn q hq (h5 q (.inr e))) (by omega) hD).mono ?_
  rintro e w' ⟨rfl, HK⟩
  refine ⟨rfl, ?_⟩
  obtain ⟨vB', vN', F', G', s', k1, k2, k3⟩ := HK.out
  have h1' : Half 37 3 1 (mkK .i64 mvT) B w' vT vM NT FT GT sT := h1.h.upd k2 fun q hq e => by
    obtain ⟨ys, hy⟩ := h1.h.type hq
    rcases e with rfl | e | e
    · rcases hy with hy | hy
      · exact absurd (blk_type h1.t hy) (by decide)
      · exact absurd (blk_type h1.t hy) (by decide)
    · obtain ⟨zs, hz⟩ := ownS_type hv e
      rcases hy with hy | hy
      · exact absurd (blk_type hz hy) (by decide)
      · exact absurd (blk_type hz hy) (by decide)
    · obtain ⟨zs, hz⟩ := h2.type e
      rcases hy with hy | hy <;> rcases hz with hz | hz
      all_goals exact absurd (blk_type hz hy) (by decide)
  refine ⟨fun q => FK vT vM NT FT GT q ∨ FK vB' vN' (NB + 1) F' G' q, ⟨vT, vM, vB', vN', NT, NB + 1, FT, GT, sT, F', G', s', ⟨h1', k1.t, rfl, rfl, h1.hb⟩, k1.h, by omega, by omega, fun q hq => hq⟩, k2.mono (fun q _ hq => ?_), fun q hq => ⟨?_, ?_⟩⟩
  · rcases hq with hq | hq | hq
    · exact .inl hq
    · exact .inr (.inl hq)
    · exact .inr (.inr (h5 q (.inr hq)))
  · rcases hq with hq | hq
    · exact .inl (h5 q (.inl hq))
    · rcases k3 q hq with h | h | h
      · exact .inl (h5 q (.inr h))
      · exact .inr (.inl h)
      · exact .inr (.inr h)
  · rcases hq with hq | hq
    · exact ⟨(h1'.lt q hq).1, (h1'.lt q hq).2, fun e => by subst e; exact h1'.off k1.t (by decide) (by decide) hq⟩
    · exact ⟨(k1.h.lt q hq).1, (k1.h.lt q hq).2, fun e => by subst e; exact k1.h.off k1.t (by decide) (by decide) hq⟩
theorem bok_holds (h : Bok B w bt p0 p1 q0 q1 N Z) (hN : N ≤ 1000) : Calls Try.prog 26 #[.pointer (some ⟨bt, 4, none⟩)] w fun e w' => e = .returned (.bool true) ∧ w = w' := by
  obtain ⟨vT, vM, vB, vN, NT, NB, FT, GT, sT, FB, GB, sB, h1, h2, h3, h4, h5⟩ := h
  exact holds_any B bt p0 p1 q0 q1 vT vM vB vN NT NB FT GT FB GB sT sB w h1 h2 (by omega) (by omega)
end
/-- The whole table: the program's stacks xp within S 0, S 1, the document's xq within S 2, S 3, the book within S 4. -/
structure Tab (B : Nat) (w : World) (bt : Nat) (p q : Nat → Value) (xp xq : Nat → Option Sk) (N : Nat) (S : Nat → Nat → Prop) : Prop where
  bk : Bok B w bt (p 0) (p 1) (q 0) (q 1) N (S 4)
  ps : ∀ i, i < 2 → PSt w B (p i) (S i) (xp i)
  qs : ∀ i, i < 2 → QSt w B (q i) (S (2 + i)) (xq i)
  ap : ∀ i j k, S i k → S j k → i = j
  ly : ∀ i k, S i k → B ≤ k ∧ k < w.heap.size ∧ k ≠ bt
section
variable {B : Nat} {w w' : World} {bt N : Nat} {p q : Nat → Value} {xp xq : Nat → Option Sk} {S : Nat → Nat → Prop}
theorem Tab.lt (h : Tab B w bt p q xp xq N S) : B ≤ bt ∧ bt < w.heap.size := by
  obtain ⟨h1, a, b, c, d, h2⟩ := h.bk.tab
  exact ⟨h1, h2.lt⟩
theorem Tab.base (h : Tab B w bt p q xp xq N S) : B ≤ w.heap.size := Nat.le_trans h.lt.1 (Nat.le_of_lt h.lt.2)
theorem Tab.upd {T : Nat → Prop} (h : Tab B w bt p q xp xq N S) (hu : Upd T w w') (hb : ¬ T bt) (hs : ∀ i k, S i k → ¬ T k) : Tab B w' bt p q xp xq N S :=
  ⟨h.bk.upd hu hb (hs 4), fun i hi => (h.ps i hi).upd hu (hs i), fun i hi => (h.qs i hi).upd hu (hs (2 + i)), h.ap, fun i k hk => ⟨(h.ly i k hk).1, Nat.lt_of_lt_of_le (h.ly i k hk).2.1 hu.size, (h.ly i k hk).2.2⟩⟩
theorem Tab.later (h : Tab B w bt p q xp xq N S) (hB : Below w.heap.size w w') : Tab B w' bt p q xp xq N S := h.upd (Upd.of_below (S := fun _ => False) hB) (fun h => h) (fun _ _ _ h => h)
theorem Tab.mono {M : Nat} (h : Tab B w bt p q xp xq N S) (hN : N ≤ M) : Tab B w bt p q xp xq M S := ⟨h.bk.mono hN, h.ps, h.qs, h.ap, h.ly⟩
/-- Its cells. -/
theorem Tab.cellP (h : Tab B w bt p q xp xq N S) (i : Nat) (hi : i < 2) : w.cell? ⟨bt, i, none⟩ = some (p i) ∧ ∀ j, w.frozen? ⟨bt, j, none⟩ = false := by
  obtain ⟨-, a, b, c, d, h2⟩ := h.bk.tab
  rcases (show i = 0 ∨ i = 1 by omega) with rfl | rfl
  · exact ⟨h2.cell 0, h2.frozen⟩
  · exact ⟨h2.cell 1, h2.frozen⟩
theorem Tab.cellQ (h : Tab B w bt p q xp xq N S) (i : Nat) (hi : i < 2) : w.cell? ⟨bt, 2 + i, none⟩ = some (q i) := by
  obtain ⟨-, a, b, c, d, h2⟩ := h.bk.tab
  rcases (show i = 0 ∨ i = 1 by omega) with rfl | rfl
  · exact h2.cell 2
  · exact h2.cell 3
/-- The book takes a list: what may have changed. -/
theorem Tab.book {N' : Nat} {v : Value} {Z' : Nat → Prop} (h : Tab B w bt p q xp xq N S) (hn : ∀ i k, v.ownBlock = some k → ¬ S i k) (hvb : ¬ v.ownBlock = some bt) (k1 : Bok B w' bt (p 0) (p 1) (q 0) (q 1) N' Z') (hu : Upd (fun k => k = bt ∨ v.ownBlock = some k ∨ S 4 k) w w') (hZ : ∀ k, Z' k → (S 4 k ∨ v.ownBlock = some k ∨ w.heap.size ≤ k) ∧ B ≤ k ∧ k < w'.heap.size ∧ k ≠ bt) : Tab B w' bt p q xp xq N' (up1 S 4 Z') := by
  have key : ∀ i, i ≠ 4 → ∀ k, S i k → ¬ (k = bt ∨ v.ownBlock = some k ∨ S 4 k) := fun i hi k hk e => by
    rcases e with e | e | e
    · exact (h.ly i k hk).2.2 e
    · exact hn i k e hk
    · exact hi (h.ap i 4 k hk e)
  refine ⟨by rw [up1_at]; exact k1, fun i hi => ?_, fun i hi => ?_, fun i j k hi hj => ?_, fun i k hk => ?_⟩
  · rw [up1_ne _ _ (by omega)]
    exact (h.ps i hi).upd hu (key i (by omega))
  · rw [up1_ne _ _ (by omega)]
    exact (h.qs i hi).upd hu (key (2 + i) (by omega))
  · by_cases e1 : i = 4
    · by_cases e2 : j = 4
      · omega
      · exfalso
        subst e1
        rw [up1_at] at hi
        rw [up1_ne _ _ e2] at hj
        rcases (hZ k hi).1 with h1 | h1 | h1
        · exact e2 (h.ap j 4 k hj h1)
        · exact hn j k h1 hj
        · have := (h.ly j k hj).2.1; omega
    · by_cases e2 : j = 4
      · exfalso
        subst e2
        rw [up1_at] at hj
        rw [up1_ne _ _ e1] at hi
        rcases (hZ k hj).1 with h1 | h1 | h1
        · exact e1 (h.ap i 4 k hi h1)
        · exact hn i k h1 hi
        · have := (h.ly i k hi).2.1; omega
      · rw [up1_ne _ _ e1] at hi
        rw [up1_ne _ _ e2] at hj
        exact h.ap i j k hi hj
  · by_cases e1 : i = 4
    · subst e1
      rw [up1_at] at hk
      exact ⟨(hZ k hk).2.1, (hZ k hk).2.2.1, (hZ k hk).2.2.2⟩
    · rw [up1_ne _ _ e1] at hk
      exact ⟨(h.ly i k hk).1, Nat.lt_of_lt_of_le (h.ly i k hk).2.1 hu.size, (h.ly i k hk).2.2⟩
/-- Set number i of the blocks is another one now. -/
theorem Tab.setS {i : Nat} {F : Nat → Prop} (h : Tab B w bt p q xp xq N S) (hu : Upd (S i) w w') (hF : ∀ k, F k → (S i k ∨ w.heap.size ≤ k) ∧ B ≤ k ∧ k < w'.heap.size) : (∀ a b k, up1 S i F a k → up1 S i F b k → a = b) ∧ ∀ a k, up1 S i F a k → B ≤ k ∧ k < w'.heap.size ∧ k ≠ bt := by
  refine ⟨fun a b k ha hb => ?_, fun a k hk => ?_⟩
  · by_cases e1 : a = i
    · by_cases e2 : b = i
      · omega
      · exfalso
        subst e1
        rw [up1_at] at ha
        rw [up1_ne _ _ e2] at hb
        rcases (hF k ha).1 with h1 | h1
        · exact e2 (h.ap b a k hb h1)
        · have := (h.ly b k hb).2.1; omega
    · by_cases e2 : b = i
      · exfalso
        subst e2
        rw [up1_at] at hb
        rw [up1_ne _ _ e1] at ha
        rcases (hF k hb).1 with h1 | h1
        · exact e1 (h.ap a b k ha h1)
        · have := (h.ly a k ha).2.1; omega
      · rw [up1_ne _ _ e1] at ha
        rw [up1_ne _ _ e2] at hb
        exact h.ap a b k ha hb
  · by_cases e1 : a = i
    · subst e1
      rw [up1_at] at hk
      refine ⟨(hF k hk).2.1, (hF k hk).2.2, fun e => ?_⟩
      subst e
      rcases (hF k hk).1 with h1 | h1
      · exact (h.ly a k h1).2.2 rfl
      · have := h.lt.2; omega
    · rw [up1_ne _ _ e1] at hk
      exact ⟨(h.ly a k hk).1, Nat.lt_of_lt_of_le (h.ly a k hk).2.1 hu.size, (h.ly a k hk).2.2⟩
theorem Tab.offS (h : Tab B w bt p q xp xq N S) {i : Nat} : ¬ S i bt := fun e => (h.ly i bt e).2.2 rfl
/-- A call of one of the program's stacks. -/
theorem Tab.setP {i g : Nat} {fs : List Fr} {m h' : Int} (h : Tab B w bt p q xp xq N S) (hi : i < 2) (hp : p i = .pointer (some ⟨g, 0, none⟩)) (ht : StkTo w B (S i) w' g fs m h') : ∃ S', Tab B w' bt p q (up1 xp i (some (fs, m, h'))) xq N S' ∧ (∀ j, j ≠ i → S' j = S j) ∧ ∀ k, S' i k → S i k ∨ w.heap.size ≤ k := by
  obtain ⟨F', h1, hu, hF⟩ := ht
  obtain ⟨ha, hl⟩ := h.setS (F := F') hu (fun k hk => ⟨hF k hk, h1.lt hk⟩)
  refine ⟨up1 S i F', ⟨?_, fun j hj => ?_, fun j hj => ?_, ha, hl⟩, fun j hj => up1_ne _ _ hj, fun k hk => by rw [up1_at] at hk; exact hF k hk⟩
  · rw [up1_ne _ _ (by omega)]
    exact h.bk.upd hu h.offS (fun k hk e => by have := h.ap 4 i k hk e; omega)
  · by_cases e : j = i
    · subst e
      rw [up1_at, up1_at]
      exact .inr ⟨g, _, rfl, hp, h1⟩
    · rw [up1_ne _ _ e, up1_ne _ _ e]
      exact (h.ps j hj).upd hu (fun k hk e2 => e (h.ap j i k hk e2))
  · rw [up1_ne _ _ (by omega)]
    exact (h.qs j hj).upd hu (fun k hk e2 => by have := h.ap (2 + j) i k hk e2; omega)
theorem Tab.setQ {i g : Nat} {fs : List Fr} {m h' : Int} (h : Tab B w bt p q xp xq N S) (hi : i < 2) (hp : q i = .pointer (some ⟨g, 0, none⟩)) (ht : RSkTo w B (S (2 + i)) w' g fs m h') : ∃ S', Tab B w' bt p q xp (up1 xq i (some (fs, m, h'))) N S' ∧ (∀ j, j ≠ 2 + i → S' j = S j) ∧ ∀ k, S' (2 + i) k → S (2 + i) k ∨ w.heap.size ≤ k := by
  obtain ⟨F', h1, hu, hF⟩ := ht
  obtain ⟨ha, hl⟩ := h.setS (F := F') hu (fun k hk => ⟨hF k hk, h1.lt hk⟩)
  refine ⟨up1 S (2 + i) F', ⟨?_, fun j hj => ?_, fun j hj => ?_, ha, hl⟩, fun j hj => up1_ne _ _ hj, fun k hk => by rw [up1_at] at hk; exact hF k hk⟩
  · rw [up1_ne _ _ (by omega)]
    exact h.bk.upd hu h.offS (fun k hk e => by have := h.ap 4 (2 + i) k hk e; omega)
  · rw [up1_ne _ _ (by omega)]
    exact (h.ps j hj).upd hu (fun k hk e2 => by have := h.ap j (2 + i) k hk e2; omega)
  · by_cases e : j = i
    · subst e
      rw [up1_at, up1_at]
      exact .inr ⟨g, _, rfl, hp, h1⟩
    · rw [up1_ne _ _ (by omega), up1_ne _ _ e]
      exact (h.qs j hj).upd hu (fun k hk e2 => by have := h.ap (2 + j) (2 + i) k hk e2; omega)
end
end Go.Proofs.Ytcmkdkocponpiaa

/- mortiselaw22: begins. -/
namespace Go.Proofs.Ytcmkdkocponpiaa
open Go.RowKit
set_option linter.unusedVariables false

set_option maxHeartbeats 1000000 in
theorem begins_none (w : World) (bt i : Nat) :
    Calls Try.prog 40 #[.pointer (some ⟨bt, 0, none⟩), .int .i64 (i : Int), .pointer none, .pointer none] w fun e w' => e = .returned (.bool true) ∧ w = w' := by
  go_enter Try.func40, Try.ntmps40
  go_wp2
  go_ret
  exact ⟨rfl, rfl⟩
set_option maxHeartbeats 1000000 in
theorem begins_some (w : World) (bt i g1 g2 : Nat) (hi : i < 2) (a b : Value) (c0 : w.cell? ⟨bt, i, none⟩ = some a) (c1 : w.cell? ⟨bt, 2 + i, none⟩ = some b) (hz : ∀ j, w.frozen? ⟨bt, j, none⟩ = false) :
    Calls Try.prog 40 #[.pointer (some ⟨bt, 0, none⟩), .int .i64 (i : Int), .pointer (some ⟨g1, 0, none⟩), .pointer (some ⟨g2, 0, none⟩)] w fun e w' => e = .returned (.bool true) ∧ Hid (w' = (w.setCell ⟨bt, i, none⟩ (.pointer (some ⟨g1, 0, none⟩))).setCell ⟨bt, 2 + i, none⟩ (.pointer (some ⟨g2, 0, none⟩))) := by
  rcases (show i = 0 ∨ i = 1 by omega) with rfl | rfl
  · have z0 := hz 0; have z1 := hz 2
    have c0' : w.cell? ⟨bt, 0, none⟩ = some a := c0
    have c1' : w.cell? ⟨bt, 2, none⟩ = some b := c1
    clear hz c0 c1
    go_enter Try.func40, Try.ntmps40
    go_wp2
    go_ret
    exact ⟨rfl, rfl⟩
  · have z0 := hz 1; have z1 := hz 3
    have c0' : w.cell? ⟨bt, 1, none⟩ = some a := c0
    have c1' : w.cell? ⟨bt, 3, none⟩ = some b := c1
    clear hz c0 c1
    go_enter Try.func40, Try.ntmps40
    go_wp2
    go_ret
    exact ⟨rfl, rfl⟩
section
variable {B : Nat} {w w' : World} {bt N : Nat} {p q : Nat → Value} {xp xq : Nat → Option Sk} {S : Nat → Nat → Prop}
theorem Tab.begin {i g1 g2 : Nat} {fs : List Fr} {m h' : Int} {F1 F2 : Nat → Prop} (h : Tab B w bt p q xp xq N S) (hi : i < 2) (h1 : Stk w B F1 g1 fs m h') (h2 : RSk w B F2 g2 fs m h') (n1 : ∀ j k, F1 k → ¬ S j k) (n2 : ∀ j k, F2 k → ¬ S j k) (n3 : ∀ k, F1 k → ¬ F2 k) (b1 : ¬ F1 bt) (b2 : ¬ F2 bt)
    (hw : w' = (w.setCell ⟨bt, i, none⟩ (.pointer (some ⟨g1, 0, none⟩))).setCell ⟨bt, 2 + i, none⟩ (.pointer (some ⟨g2, 0, none⟩))) :
    Tab B w' bt (up1 p i (.pointer (some ⟨g1, 0, none⟩))) (up1 q i (.pointer (some ⟨g2, 0, none⟩))) (up1 xp i (some (fs, m, h'))) (up1 xq i (some (fs, m, h'))) N (up1 (up1 S i F1) (2 + i) F2) := by
  have hu : Upd (fun k => k = bt) w w' := by rw [hw]; exact ((Upd.refl (fun k => k = bt) w).set ⟨bt, i, none⟩ _ (.inl rfl)).set ⟨bt, 2 + i, none⟩ _ (.inl rfl)
  have hk : ∀ a b c d, Blk w bt 60 [p 0, p 1, q 0, q 1, a, b, c, d] → Blk w' bt 60 [up1 p i (.pointer (some ⟨g1, 0, none⟩)) 0, up1 p i (.pointer (some ⟨g1, 0, none⟩)) 1, up1 q i (.pointer (some ⟨g2, 0, none⟩)) 0, up1 q i (.pointer (some ⟨g2, 0, none⟩)) 1, a, b, c, d] := fun a b c d k => by
    have k2 := (k.set i (.pointer (some ⟨g1, 0, none⟩))).set (2 + i) (.pointer (some ⟨g2, 0, none⟩))
    rw [hw]
    rcases (show i = 0 ∨ i = 1 by omega) with rfl | rfl
    · exact k2
    · exact k2
  have n4 : ∀ j, up1 (up1 S i F1) (2 + i) F2 j = if j = 2 + i then F2 else if j = i then F1 else S j := fun j => by
    by_cases e : j = 2 + i
    · rw [if_pos e, e, up1_at]
    · rw [if_neg e, up1_ne _ _ e]; rfl
  refine ⟨?_, fun j hj => ?_, fun j hj => ?_, fun a b k ha hb => ?_, fun a k ha => ?_⟩
  · rw [n4, if_neg (by omega), if_neg (by omega)]
    exact h.bk.ptr (fun k hk => (h.ly 4 k hk).2.2) hu hk
  · rw [n4, if_neg (by omega)]
    by_cases e : j = i
    · subst e
      rw [up1_at, up1_at, if_pos rfl]
      exact .inr ⟨g1, _, rfl, rfl, h1.upd hu (fun k hk' e => b1 (e ▸ hk'))⟩
    · rw [up1_ne _ _ e, up1_ne _ _ e, if_neg e]
      exact (h.ps j hj).upd hu (fun k hk => (h.ly j k hk).2.2)
  · rw [n4]
    by_cases e : j = i
    · subst e
      rw [up1_at, up1_at, if_pos rfl]
      exact .inr ⟨g2, _, rfl, rfl, h2.upd hu (fun k hk' e => b2 (e ▸ hk'))⟩
    · rw [up1_ne _ _ e, up1_ne _ _ e, if_neg (by omega), if_neg (by omega)]
      exact (h.qs j hj).upd hu (fun k hk => (h.ly (2 + j) k hk).2.2)
  · rw [n4] at ha hb
    split at ha <;> split at hb
    · omega
    · exfalso
      split at hb
      · exact n3 k hb ha
      · exact n2 b k ha hb
    · exfalso
      split at ha
      · exact n3 k ha hb
      · exact n2 a k hb ha
    · split at ha <;> split at hb
      · omega
      · exact absurd hb (n1 b k ha)
      · exact absurd ha (n1 a k hb)
      · exact h.ap a b k ha hb
  · rw [n4] at ha
    have hs : w.heap.size ≤ w'.heap.size := hu.size
    split at ha
    · exact ⟨(h2.lt ha).1, Nat.lt_of_lt_of_le (h2.lt ha).2 hs, fun e => b2 (e ▸ ha)⟩
    · split at ha
      · exact ⟨(h1.lt ha).1, Nat.lt_of_lt_of_le (h1.lt ha).2 hs, fun e => b1 (e ▸ ha)⟩
      · exact ⟨(h.ly a k ha).1, Nat.lt_of_lt_of_le (h.ly a k ha).2.1 hs, (h.ly a k ha).2.2⟩
end
end Go.Proofs.Ytcmkdkocponpiaa

/- mortiselaw22: loads. -/
namespace Go.Proofs.Ytcmkdkocponpiaa
open Go.RowKit
set_option linter.unusedVariables false

/-- What loads leaves. -/
def LdsTo (B : Nat) (w w' : World) (bt : Nat) (xs : Nat → Option Sk) (N : Nat) (S : Nat → Nat → Prop) : Prop :=
  ∃ p' q' xs' S', Tab B w' bt p' q' xs' xs' N S' ∧ (∀ j y, xs j = some y → ∃ z, xs' j = some z) ∧ (∀ j k, S' j k → S j k ∨ w.heap.size ≤ k) ∧ Upd (fun k => k = bt) w w'
theorem own_put {K : IntKind} {e : TypeId} {w : World} {B g n cap i : Nat} {l : List Int} (h : w.ownsRow B e 1 (.slice (some ⟨g, 0, none⟩) n cap) n (cellsL K l)) (hl : l.length = n) (hi : i < n) (x : Int) :
    w.cell? ⟨g, i, none⟩ = some (.int K (l.getD i 0)) ∧ (∀ j, w.frozen? ⟨g, j, none⟩ = false) ∧ (w.setCell ⟨g, i, none⟩ (.int K x)).ownsRow B e 1 (.slice (some ⟨g, 0, none⟩) n cap) n (cellsL K (l.set i x)) := by
  obtain ⟨g', cap', ys, e', hb, hn, hm, hyl, ht, hK⟩ := ownS_blk h (by omega)
  have e1 : g = g' ∧ cap = cap' := by simpa using e'
  obtain ⟨rfl, rfl⟩ := e1
  refine ⟨?_, fun j => hK.frozen j, ?_⟩
  · rw [hK.cell]
    have h1 : (ys.take (n * 1))[i]? = ys[i]? := by rw [List.getElem?_take, if_pos (by omega)]
    rw [← h1, ht, cellsL_at _ _ i (by omega)]
  · have h9 := ownS_of_blk (n := n) (c := 1) (hK.set i (.int K x)) hb (by simpa using hyl) hn hm
    rw [List.take_set, ht] at h9
    have h10 : (cellsL K l).set i (.int K x) = cellsL K (l.set i x) := by
      unfold cellsL
      rw [List.map_set]
    rw [h10] at h9
    exact h9
/-- A copy of bytes with a mark behind it. -/
theorem lnY (w : World) (a : Option Addr) (c : Nat) (T : List Int) (hrow : Row .u8 w a T) (hnil : a = none → c = 0) (hl : T.length ≤ 20000000000000) :
    ∃ v1 w1 g2 c2 w2, (Builtin.append_ #[23, 23] 23 #[.slice none 0 0, .slice a T.length c]).run Try.prog w = .ok v1 w1 ∧
      (Builtin.append_ #[23, 23] 23 #[v1, .slice (some ⟨w1.heap.size, 0, none⟩) 1 1]).run Try.prog (w1.alloc (.cells #[.int .u8 90] 5)) = .ok (.slice (some ⟨g2, 0, none⟩) (T.length + 1) c2) w2 ∧
      BOwn w2 w.heap.size (.slice (some ⟨g2, 0, none⟩) (T.length + 1) c2) (T ++ [90]) ∧ Below w.heap.size w w2 ∧ T.length + 1 ≤ c2 ∧ c2 ≤ maxLen ∧ w.heap.size ≤ g2 ∧ g2 < w2.heap.size := by
  obtain ⟨v1, w1, h1, h2, h3⟩ := run_copy E23 w 23 w.heap.size a T.length c T rfl hrow hnil (by unfold maxLen; omega) (by omega) (Nat.le_refl _)
  have hb1 : Below w.heap.size w w1 := (Upd.refl (fun _ => False) w).grown h3 (fun k hk => by cases hk) |>.below _ (Nat.le_refl _) (fun k hk => hk.elim)
  have ho : BOwn w1 w.heap.size v1 T := h2
  obtain ⟨g2, c2, w2, k1, k2, k3⟩ := ho.push 90 (by omega) hb1.size
  obtain ⟨a', c', e, -, -, h5, h6⟩ := BOwn.row k2
  injection e with e1 e2 e3
  subst e3
  rw [List.length_append, List.length_singleton] at h5
  have hlt := World.ownsRow.lt k2 g2 rfl
  exact ⟨v1, w1, g2, c2, w2, h1, k1, k2, hb1.trans k3.1, h5, h6, hlt⟩
theorem byw (n : Int) : 0 ≤ IntKind.u8.wrap n ∧ IntKind.u8.wrap n ≤ 255 := by rw [IntKind.wrap_u8]; omega
set_option maxRecDepth 100000 in
set_option maxHeartbeats 8000000 in
theorem loads_any (B bt i : Nat) (p q : Nat → Value) (xs : Nat → Option Sk) (N : Nat) (S : Nat → Nat → Prop) (a : Option Addr) (c : Nat) (b : List Int) (w : World) (hT : Hid (Tab B w bt p q xs xs N S)) (hi : i < 2) (hrow : Hid (Row .u8 w a b)) (hnil : a = none → c = 0) (hby : Hid (Bys b)) (hcap : b.length ≤ c) (hl : b.length ≤ 15000000000000) :
    Calls Try.prog 46 #[.pointer (some ⟨bt, 0, none⟩), .int .i64 (i : Int), .slice a b.length c] w fun e w' => e = .returned (.bool true) ∧ Hid (LdsTo B w w' bt xs N S) := by
  obtain ⟨v1, w1, g2, c2, w2, r1, r2, ho, hb2, hc2, hc2m, hg2, hg2'⟩ := lnY w a c b hrow.out hnil (by omega)
  have R1 := hide_ r1
  have R2 := hide_ r2
  have HO2 := hide_ ho
  have HB2 := hide_ hb2
  have hrowO : Row .u8 w2 (some ⟨g2, 0, none⟩) b := by
    obtain ⟨a', c', e, hr, -⟩ := BOwn.row ho
    injection e with e _ _
    subst e
    have := hr.take b.length
    rwa [List.take_left] at this
  have HRO := hide_ hrowO
  have HLd := hide_ (load_any (some ⟨g2, 0, none⟩) c2 b w2 (hide_ hrowO) (fun h => by cases h) hby (by omega) (by unfold maxLen at hc2m; omega))
  unfold maxLen at hc2m
  have hc2' : (b.length : Int) ≤ c2 := by omega
  have hc2'' : (b.length : Int) + 1 ≤ c2 := by omega
  clear r1 r2 ho hb2 hrowO
  go_enter Try.func46, Try.ntmps46
  go_wp2_with (first
    | (at_builtin; have _t := R1; refine wpList_append_run rfl (.const (.slice none 0 0)) (.tmp 15) 23 23 rfl rfl rfl R1.out ?_; clear R1)
    | (at_builtin; have _t := R2; refine wpList_append_run rfl (.tmp 16) (.tmp 17) 23 23 rfl rfl rfl R2.out ?_; clear R2))
  refine HLd.out.mono ?_
  rintro e w3 hto
  obtain ⟨vp, er, at_, rfl, HB3, HP⟩ : ∃ vp er at_, e = .returned (.tuple #[vp, .agg #[.int .i64 er, .int .i64 at_]]) ∧ Hid (Below w2.heap.size w2 w3) ∧ Hid ((∃ fs m h F g, ldP b = .ok (fs, m, h) ∧ er = 0 ∧ at_ = 0 ∧ vp = .pointer (some ⟨g, 0, none⟩) ∧ Stk w3 w2.heap.size F g fs m h) ∨ (ldP b = .error (er, at_) ∧ vp = .pointer none)) := by
    rcases hto with ⟨fs, m, h, F, gs, h1, rfl, h2, h3⟩ | ⟨er, at_, h1, rfl, h2⟩
    · exact ⟨_, 0, 0, rfl, h3, hide_ (.inl ⟨fs, m, h, F, gs, h1, rfl, rfl, rfl, h2.out⟩)⟩
    · exact ⟨_, er, at_, rfl, h2, hide_ (.inr ⟨h1, rfl⟩)⟩
  clear hto HLd
  obtain ⟨w4, hw4⟩ : ∃ wx, wx = w3.alloc (.cells #[.int .i64 er, .int .i64 at_] 31) := ⟨_, rfl⟩
  have hB4 : Below w3.heap.size w3 w4 := by rw [hw4]; exact below1 _ _
  have HF4 : Hid (Blk w4 w3.heap.size 31 [.int .i64 er, .int .i64 at_]) := hide_ (by rw [hw4]; exact Blk.newA w3 _ _)
  have HB4 := hide_ (below_to (below_to HB2.out HB3.out) hB4)
  have HB34 := hide_ hB4
  have HS34 := hide_ hB4.size
  have HRLd := hide_ (rload_any a c b w4 (hide_ (hrow.out.later HB4.out)) hnil hby hcap (by omega))
  clear hB4
  go_upto_region 3 with fail
  rw [← hw4]
  clear hw4
  go_wp2_with fail
  refine HRLd.out.mono ?_
  rintro e w5 hto
  obtain ⟨vq, rfl, HB5, HQ⟩ : ∃ vq, e = .returned (.tuple #[vq, .int .i64 er, .int .i64 at_]) ∧ Hid (Below w4.heap.size w4 w5) ∧ Hid ((∃ fs m h F1 F2 g1 g3, vp = .pointer (some ⟨g1, 0, none⟩) ∧ vq = .pointer (some ⟨g3, 0, none⟩) ∧ Stk w3 w2.heap.size F1 g1 fs m h ∧ RSk w5 w4.heap.size F2 g3 fs m h) ∨ (vp = .pointer none ∧ vq = .pointer none)) := by
    rcases hto with ⟨fs, m, h, F, gs, h1, rfl, h2, h3⟩ | ⟨er', at', h1, rfl, h2⟩
    · rcases HP.out with ⟨fs', m', h', F', g', k1, rfl, rfl, rfl, k2⟩ | ⟨k1, -⟩
      · rw [k1] at h1
        injection h1 with h1
        injection h1 with e1 h1
        injection h1 with e2 e3
        subst e1 e2 e3
        exact ⟨_, rfl, h3, hide_ (.inl ⟨_, _, _, F', F, g', gs, rfl, rfl, k2, h2.out⟩)⟩
      · rw [k1] at h1; cases h1
    · rcases HP.out with ⟨fs', m', h', F', g', k1, rfl, rfl, rfl, k2⟩ | ⟨k1, rfl⟩
      · rw [k1] at h1; cases h1
      · rw [k1] at h1
        injection h1 with h1
        injection h1 with e1 e2
        subst e1 e2
        exact ⟨_, rfl, h2, hide_ (.inr ⟨rfl, rfl⟩)⟩
  clear hto HRLd HP
  have HB35 := hide_ (below_to HB34.out HB5.out)
  have HB25 := hide_ (below_to HB3.out HB35.out)
  have HB05 := hide_ (below_to HB2.out HB25.out)
  have HF5 := hide_ (HF4.out.later HB5.out)
  have f0 := HF5.out.cell 0; have f1 := HF5.out.cell 1
  simp at f0 f1
  have hcv1 := conv_row E23 Try.underlying9 w5 (some ⟨g2, 0, none⟩) b.length c2 b rfl (HRO.out.later HB25.out)
  have hcv2 := conv_row E23 Try.underlying9 w5 a b.length c b rfl (hrow.out.later HB05.out)
  have hmk : w5.cell? ⟨g2, b.length, none⟩ = some (.int .u8 90) := by
    have h := HO2.out.later HB25.out
    obtain ⟨a', c', e, hr, -⟩ := BOwn.row h
    injection e with e _ _
    obtain ⟨b', off, e2, -, hc⟩ := hr.open (by simp)
    rw [← e] at e2
    injection e2 with e2
    injection e2 with e3 e4 _
    subst e3 e4
    have := hc b.length (by simp)
    simpa using this
  have HOw : Hid (∃ l : List Int, l.length = b.length + 1 ∧ w5.ownsRow w.heap.size 5 1 (.slice (some ⟨g2, 0, none⟩) (b.length + 1) c2) (b.length + 1) (cellsL .u8 l)) := hide_ ⟨b ++ [90], by simp, by have := HO2.out.later HB25.out; unfold BOwn at this; rw [List.length_append, List.length_singleton] at this; exact this⟩
  have hw1 : IntKind.i64.wrap ((b.length : Int) + 1) = (b.length : Int) + 1 := i64w _ (by omega)
  have hw2 : ((b.length : Int) + 1).toNat = b.length + 1 := by omega
  have hw3 : (0 : Int) ≤ (b.length : Int) + 1 := by omega
  have hw4 : (b.length : Int) < (b.length : Int) + 1 := by omega
  obtain ⟨st, hst⟩ : ∃ st, strOfNums b = st := ⟨_, rfl⟩
  rw [hst] at hcv1 hcv2
  have HNum := hide_ (num_any er w5)
  have HU5 : Hid (Upd (fun k => k = g2) w5 w5) := hide_ (Upd.refl _ _)
  clear hst HF4 HF5 HO2 HRO HB34
  go_wp2_with (go_at_call 10; refine HNum.out.mono ?_; rintro e w' ⟨rfl, rfl⟩)
  clear f0 f1 hcv1 hcv2 hmk HNum
  go_loopw [14] (fun x14 wr => ∃ k : Nat, k ≤ b.length ∧ x14 = .int .i64 (k : Int) ∧ Hid (∃ l : List Int, l.length = b.length + 1 ∧ wr.ownsRow w.heap.size 5 1 (.slice (some ⟨g2, 0, none⟩) (b.length + 1) c2) (b.length + 1) (cellsL .u8 l)) ∧ Hid (Upd (fun k => k = g2) w5 wr)) (fun x14 _ => b.length - (intOf x14).toNat)
  case atStart => exact ⟨0, Nat.zero_le _, rfl, HOw, HU5⟩
  case round =>
    clear HOw HU5
    obtain ⟨k, hk, rfl, HO, HU⟩ := hrel
    generalize wr = wq at *
    by_cases hlt : k < b.length
    · have hlt' : (k : Int) < b.length := by omega
      obtain ⟨l, hll, hO⟩ := HO.out
      have hp := fun x => own_put hO hll (show k < b.length + 1 by omega) x
      obtain ⟨hc0, hz, -⟩ := hp 0
      have hz' := hz k
      obtain ⟨y, hy⟩ : ∃ y, l.getD k 0 = y := ⟨_, rfl⟩
      rw [hy] at hc0
      have HO3 : Hid (∃ l : List Int, l.length = b.length + 1 ∧ (wq.setCell ⟨g2, k, none⟩ (.int .u8 (IntKind.u8.wrap (y + 1)))).ownsRow w.heap.size 5 1 (.slice (some ⟨g2, 0, none⟩) (b.length + 1) c2) (b.length + 1) (cellsL .u8 l)) := hide_ ⟨_, by rw [List.length_set]; exact hll, (hp _).2.2⟩
      have HU3 := hide_ (HU.out.set ⟨g2, k, none⟩ (.int .u8 (IntKind.u8.wrap (y + 1))) (.inl rfl))
      clear hll hO hp hz hy hw1 hw2 hw3 hw4
      go_wp2_with fail
      go_roundw
      case rel => exact ⟨k + 1, by omega, by go_num, HO3, HU3⟩
      case measure => simp [intOf]; omega
    · obtain rfl : k = b.length := by omega
      have hnl : ¬ ((b.length : Int) < (b.length : Int)) := by omega
      have hT5 := (hT.out.later HB05.out).upd HU.out (show ¬ bt = g2 by have := hT.out.lt.2; omega) (fun j x hx e => by have := (hT.out.ly j x hx).2.1; omega)
      have hU0 : Upd (fun k => k = bt) w wq := ((Upd.of_below HB05.out).trans HU.out (fun k hk e => by omega))
      have HT5 := hide_ hT5
      have HU0 := hide_ hU0
      rcases HQ.out with ⟨fs, m, h, F1, F2, g1, g3, rfl, rfl, hs1, hs2⟩ | ⟨rfl, rfl⟩
      · have hsz2 : w.heap.size ≤ w2.heap.size := HB2.out.size
        have hsz3 : w2.heap.size ≤ w3.heap.size := HB3.out.size
        have hsz4 := HS34.out
        have hbt := hT.out.lt.2
        have hBw := hT.out.base
        have k1 := ((hs1.later HB35.out).upd HU.out (fun k hk e => by have := (hs1.lt hk).1; omega)).base (show B ≤ w2.heap.size by omega)
        have k2 := (hs2.upd HU.out (fun k hk e => by have := (hs2.lt hk).1; omega)).base (show B ≤ w4.heap.size by omega)
        have HBg := hide_ (begins_some wq bt i g1 g3 hi (p i) (q i) (hT5.cellP i hi).1 (hT5.cellQ i hi) (hT5.cellP i hi).2)
        have n1 : ∀ j k, F1 k → ¬ S j k := fun j k hk e => by have := (hs1.lt hk).1; have := (hT.out.ly j k e).2.1; omega
        have n2 : ∀ j k, F2 k → ¬ S j k := fun j k hk e => by have := (hs2.lt hk).1; have := (hT.out.ly j k e).2.1; omega
        have n3 : ∀ k, F1 k → ¬ F2 k := fun k hk e => by have := (hs1.lt hk).2; have := (hs2.lt e).1; omega
        have b1 : ¬ F1 bt := fun e => by have := (hs1.lt e).1; omega
        have b2 : ¬ F2 bt := fun e => by have := (hs2.lt e).1; omega
        have g1l : ∀ k, F1 k → w.heap.size ≤ k := fun k hk => by have := (hs1.lt hk).1; omega
        have g2l : ∀ k, F2 k → w.heap.size ≤ k := fun k hk => by have := (hs2.lt hk).1; omega
        have HTn : Hid (∀ w', w' = (wq.setCell ⟨bt, i, none⟩ (.pointer (some ⟨g1, 0, none⟩))).setCell ⟨bt, 2 + i, none⟩ (.pointer (some ⟨g3, 0, none⟩)) → LdsTo B w w' bt xs N S) := hide_ (fun w' hw => by
          refine ⟨_, _, _, _, hT5.begin hi k1 k2 n1 n2 n3 b1 b2 hw, fun j y hy => ?_, fun j k hk => ?_, ?_⟩
          · by_cases e : j = i
            · subst e; exact ⟨_, up1_at _ _ _⟩
            · exact ⟨y, by rw [up1_ne _ _ e]; exact hy⟩
          · by_cases e : j = 2 + i
            · subst e; rw [up1_at] at hk; exact .inr (g2l k hk)
            · rw [up1_ne _ _ e] at hk
              by_cases e2 : j = i
              · subst e2; rw [up1_at] at hk; exact .inr (g1l k hk)
              · rw [up1_ne _ _ e2] at hk; exact .inl hk
          · rw [hw]
            exact (hU0.set ⟨bt, i, none⟩ _ (.inl rfl)).set ⟨bt, 2 + i, none⟩ _ (.inl rfl))
        clear hT5 hU0 hw1 hw2 hw3 hw4 k1 k2 n1 n2 n3 b1 b2 g1l g2l hs1 hs2 hsz2 hsz3 hsz4
        go_wp2_with fail
        refine HBg.out.mono ?_
        rintro e w7 ⟨rfl, HW⟩
        have HL := hide_ (HTn.out w7 HW.out)
        go_wp2_with fail
        go_ret
        exact ⟨rfl, HL⟩
      · have HBn := hide_ (begins_none wq bt i)
        clear hT5 hU0 hw1 hw2 hw3 hw4
        go_wp2_with fail
        refine HBn.out.mono ?_
        rintro e w7 ⟨rfl, rfl⟩
        go_wp2_with fail
        go_ret
        exact ⟨rfl, hide_ ⟨p, q, xs, S, HT5.out, fun j y hy => ⟨y, hy⟩, fun j x hx => .inl hx, HU0.out⟩⟩
end Go.Proofs.Ytcmkdkocponpiaa

/- mortiselaw22: saves. -/
namespace Go.Proofs.Ytcmkdkocponpiaa
open Go.RowKit
set_option linter.unusedVariables false

/-- What a call of the script leaves. -/
def PlTo (B : Nat) (w w' : World) (bt : Nat) (xs : Nat → Option Sk) (N : Nat) : Prop :=
  ∃ p' q' xs' S', Tab B w' bt p' q' xs' xs' N S' ∧ (∀ j y, xs j = some y → ∃ z, xs' j = some z) ∧ Below B w w'
theorem flat_by2 (l : List Int) (h : ∀ x ∈ l, True) : Bys (l.flatMap fm) := fun x hx => by
  obtain ⟨y, -, hy⟩ := List.mem_flatMap.1 hx
  exact form_bys _ x hy
theorem svF_by2 (f : Fr) : Bys (svF f) := (flat_by2 _ (fun _ _ => trivial)).append (flat_by2 _ (fun _ _ => trivial))
theorem sv_by2 (fs : List Fr) (m h : Int) : Bys (sv fs m h) := by
  have h1 : Bys (fs.flatMap svF) := fun x hx => by
    obtain ⟨y, -, hy⟩ := List.mem_flatMap.1 hx
    exact svF_by2 y x hy
  have h0 : Bys [102] := fun x hx => by
    rcases List.mem_singleton.1 hx with rfl
    omega
  exact (((h0.append (form_bys _)).append (form_bys _)).append (form_bys _)).append h1
theorem Stk.svl {w : World} {B g : Nat} {F : Nat → Prop} {fs : List Fr} {m h : Int} (H : Stk w B F g fs m h) : (sv fs m h).length ≤ 15000000000000 := by
  obtain ⟨v, P, hM, rfl, -, -⟩ := H
  have h1 := hM.hm
  have h2 := hM.hl
  have h3 := hM.hh
  have h4 := svs_len (P.map (·.1)) (fun f hf => by obtain ⟨p, hp, rfl⟩ := List.mem_map.1 hf; exact hM.rt p hp)
  have h5 := svH_len (P.map (·.1)).length m h (by simp; omega) (by omega) (by omega)
  have h6 : (P.map (·.1)).length ≤ 1048576 := by simp; omega
  have h7 := Nat.mul_le_mul_right 10485830 h6
  unfold sv
  rw [List.length_append]
  omega
set_option maxRecDepth 100000 in
set_option maxHeartbeats 8000000 in
theorem saves_any (B bt i : Nat) (p q : Nat → Value) (xs : Nat → Option Sk) (N : Nat) (S : Nat → Nat → Prop) (y : Sk) (again : Bool) (w : World) (hT : Hid (Tab B w bt p q xs xs N S)) (hi : i < 2) (hy : xs i = some y) (hN : N ≤ 790) :
    Calls Try.prog 45 #[.pointer (some ⟨bt, 0, none⟩), .int .i64 (i : Int), .bool again] w fun e w' => e = .returned (.bool true) ∧ Hid (PlTo B w w' bt xs (N + 2)) := by
  obtain ⟨fs, m, h⟩ := y
  have hP := hT.out.ps i hi
  have hQ := hT.out.qs i hi
  rw [hy] at hP hQ
  obtain ⟨gp, hp, hS⟩ := hP.open
  obtain ⟨gq, hq, hR⟩ := hQ.open
  dsimp only at hS hR
  have hsl := hS.svl
  have HS := hide_ hS
  have HR := hide_ hR
  have HBd := hide_ hT.out.lt
  have HBw := hide_ hT.out.base
  have hi' : (i : Int) < 2 := by omega
  have HC : Hid (∀ w', Below w.heap.size w w' → w'.cell? ⟨bt, i, none⟩ = some (.pointer (some ⟨gp, 0, none⟩)) ∧ w'.cell? ⟨bt, 2 + i, none⟩ = some (.pointer (some ⟨gq, 0, none⟩))) := hide_ (fun w' hb => by
    have h := hT.out.later hb
    rw [← hp, ← hq]
    exact ⟨(h.cellP i hi).1, h.cellQ i hi⟩)
  obtain ⟨c0, c1⟩ := HC.out w (Below.refl _ _)
  have HSv1 := hide_ (save_any w B (S i) gp fs m h HS)
  obtain ⟨L, hL⟩ : ∃ L, sv fs m h = L := ⟨_, rfl⟩
  have HLb : Hid (Bys L) := hide_ (by rw [← hL]; exact sv_by2 _ _ _)
  have HL := hide_ hL
  rw [hL] at hsl
  have hy0 := hide_ hy
  clear hP hQ hS hR hp hq hL hy
  go_enter Try.func45, Try.ntmps45
  go_wp2_with fail
  refine HSv1.out.mono ?_
  rintro e w1 ⟨va, rfl, hoa, hb1⟩
  rw [HL.out] at hoa
  obtain ⟨aa, ca, rfl, hra, hna, hca, -⟩ := hoa.row
  have HB1 := hide_ hb1
  have HOa := hide_ hoa
  have HSv2 := hide_ (save_any w1 B (S i) gp fs m h (hide_ (HS.out.later hb1)))
  obtain ⟨d0, d1⟩ := HC.out w1 hb1
  clear hoa hra hna hca hb1 c0 c1 HSv1
  go_wp2_with fail
  refine HSv2.out.mono ?_
  rintro e w2 ⟨vb, rfl, hob, hb2⟩
  rw [HL.out] at hob
  obtain ⟨ab, cb, rfl, hrb, hnb, hcb, -⟩ := hob.row
  have HB2 := hide_ (below_to HB1.out hb2)
  have HB12 := hide_ hb2
  have HOb := hide_ hob
  have HSv3 := hide_ (rsave_any w2 B (S (2 + i)) gq fs m h (hide_ (HR.out.later HB2.out)))
  obtain ⟨c0, c1⟩ := HC.out w2 HB2.out
  clear hob hrb hnb hcb hb2 d0 d1 HSv2
  go_wp2_with fail
  refine HSv3.out.mono ?_
  rintro e w3 ⟨vc, rfl, hoc, hb3⟩
  rw [HL.out] at hoc
  obtain ⟨ac, cc, rfl, hrc, hnc, hcc, -⟩ := hoc.row
  have HB3 := hide_ (below_to HB2.out hb3)
  have HB23 := hide_ hb3
  have HB13 := hide_ (below_to HB12.out hb3)
  have HOc := hide_ hoc
  have hOa3 := HOa.out.later HB13.out
  have hOb3 := HOb.out.later hb3
  have hcv1 := conv_row E23 Try.underlying9 w3 aa L.length ca L rfl (by obtain ⟨a', c', e, hr, -⟩ := hOa3.row; injection e with e _ _; rw [e]; exact hr)
  have hcv2 := conv_row E23 Try.underlying9 w3 ab L.length cb L rfl (by obtain ⟨a', c', e, hr, -⟩ := hOb3.row; injection e with e _ _; rw [e]; exact hr)
  have hcv3 := conv_row E23 Try.underlying9 w3 ac L.length cc L rfl hrc
  obtain ⟨st, hst⟩ : ∃ st, strOfNums L = st := ⟨_, rfl⟩
  rw [hst] at hcv1 hcv2 hcv3
  have HOa3 := hide_ hOa3
  have HOb3 := hide_ hOb3
  have hT3 := hT.out.later HB3.out
  have HT3 := hide_ hT3
  have HLs := hide_ (loads_any B bt i p q xs N S ac cc L w3 (hide_ hT3) hi (hide_ hrc) hnc HLb hcc hsl)
  have HTl : Hid (∀ w4, LdsTo B w3 w4 bt xs N S → ∃ p' q' xs' S', Tab B w4 bt p' q' xs' xs' N S' ∧ (∀ j y, xs j = some y → ∃ z, xs' j = some z) ∧ Below B w w4 ∧ BOwn w4 B (.slice aa L.length ca) L ∧ BOwn w4 B (.slice ab L.length cb) L ∧ (∀ j k, (Value.slice aa L.length ca).ownBlock = some k → ¬ S' j k) ∧ (∀ j k, (Value.slice ab L.length cb).ownBlock = some k → ¬ S' j k) ∧ (∀ k, (Value.slice ab L.length cb).ownBlock = some k → k < w4.heap.size ∧ ¬ (Value.slice aa L.length ca).ownBlock = some k ∧ k ≠ bt) ∧ ∀ k, (Value.slice aa L.length ca).ownBlock = some k → B ≤ k ∧ k ≠ bt) := hide_ (by
    rintro w4 ⟨p', q', xs', S', h1, h2, h3, h4⟩
    have hbt := HBd.out.2
    have hB0 := HBw.out
    have s1 := HB1.out.size
    have s2 := HB12.out.size
    have s3 := HB23.out.size
    have la : ∀ k, (Value.slice aa L.length ca).ownBlock = some k → w.heap.size ≤ k ∧ k < w1.heap.size := fun k hk => World.ownsRow.lt HOa.out k hk
    have lb : ∀ k, (Value.slice ab L.length cb).ownBlock = some k → w1.heap.size ≤ k ∧ k < w2.heap.size := fun k hk => World.ownsRow.lt HOb.out k hk
    have s4 : w3.heap.size ≤ w4.heap.size := h4.size
    refine ⟨p', q', xs', S', h1, h2, (HB3.out.mono hB0).trans (h4.below B (by omega) (fun k hk => by have := HBd.out.1; omega)), own_base (ownS_upd HOa3.out h4 (fun k hk e => by have := la k hk; omega)) hB0, own_base (ownS_upd HOb3.out h4 (fun k hk e => by have := lb k hk; omega)) (by omega), fun j k hk e => ?_, fun j k hk e => ?_, fun k hk => ⟨by have := lb k hk; omega, fun e => by have := la k e; have := lb k hk; omega, by have := lb k hk; omega⟩, fun k hk => ⟨by have := la k hk; omega, by have := la k hk; omega⟩⟩
    · have := la k hk
      rcases h3 j k e with e | e
      · have := (hT.out.ly j k e).2.1; omega
      · omega
    · have := lb k hk
      rcases h3 j k e with e | e
      · have := (hT.out.ly j k e).2.1; omega
      · omega)
  clear hoc hrc hnc hcc hb3 hT3 c0 c1 hst hOa3 hOb3 HSv3
  cases again with
  | true =>
    go_wp2_with fail
    refine HLs.out.mono ?_
    rintro e w4 ⟨rfl, HLd⟩
    have HLd' := hide_ HLd.out
    clear HLd HLs
    obtain ⟨p', q', xs', S', hT4, hxs, hB4, hOa, hOb, na, nb, nab, nab2⟩ := HTl.out w4 HLd'.out
    have HT4 := hide_ hT4
    have HBy := hide_ (bok_bytes hT4.bk hOa (na 4) (by omega) (by omega))
    have HOb4 := hide_ hOb
    have HB4 := hide_ hB4
    have Nb := hide_ nb
    have Na := hide_ na
    have Nab := hide_ nab
    have Nab2 := hide_ nab2
    have HXs := hide_ hxs
    clear hT4 hOa hOb na nb nab nab2 hxs hB4
    go_wp2_with fail
    refine HBy.out.mono ?_
    rintro e w5 ⟨rfl, HK⟩
    clear hcv1 hcv2 hcv3
    obtain ⟨Z', k1, k2, k3⟩ := HK.out
    have hT5 := HT4.out.book Na.out (fun e => (Nab2.out bt e).2 rfl) k1 k2 k3
    have hOb5 := ownS_upd HOb4.out k2 (fun k hk e => by
      rcases e with e | e | e
      · exact (Nab.out k hk).2.2 e
      · exact (Nab.out k hk).2.1 e
      · exact Nb.out 4 k hk e)
    have n5 : ∀ j k, (Value.slice ab L.length cb).ownBlock = some k → ¬ up1 S' 4 Z' j k := fun j k hk e => by
      by_cases e4 : j = 4
      · subst e4
        rw [up1_at] at e
        rcases (k3 k e).1 with e | e | e
        · exact Nb.out 4 k hk e
        · exact (Nab.out k hk).2.1 e
        · have := (Nab.out k hk).1; omega
      · rw [up1_ne _ _ e4] at e
        exact Nb.out j k hk e
    have hB5 : Below B w w5 := HB4.out.trans (k2.below B HT4.out.base (fun k hk => by
      rcases hk with rfl | hk | hk
      · exact HT4.out.lt.1
      · exact (Nab2.out k hk).1
      · exact (HT4.out.ly 4 k hk).1))
    have HT5 := hide_ hT5
    have HBy2 := hide_ (bok_bytes hT5.bk hOb5 (n5 4) (by omega) (by omega))
    have N5 := hide_ n5
    have HB5 := hide_ hB5
    have HL5 : Hid (∀ k, (Value.slice ab L.length cb).ownBlock = some k → B ≤ k) := hide_ (fun k hk => (World.ownsRow.lt hOb5 k hk).1)
    clear hT5 hOb5 n5 hB5 k1 k2 k3 HK
    go_wp2_with fail
    refine HBy2.out.mono ?_
    rintro e w6 ⟨rfl, HK⟩
    obtain ⟨Z2, k1, k2, k3⟩ := HK.out
    have hT6 := HT5.out.book N5.out (fun e => (Nab.out bt e).2.2 rfl) k1 k2 k3
    have hB6 : Below B w w6 := HB5.out.trans (k2.below B HT5.out.base (fun k hk => by
      rcases hk with rfl | hk | hk
      · exact HT5.out.lt.1
      · exact HL5.out k hk
      · exact (HT5.out.ly 4 k hk).1))
    have HP : Hid (PlTo B w w6 bt xs (N + 2)) := hide_ ⟨_, _, _, _, hT6, HXs.out, hB6⟩
    clear hT6 hB6 k1 k2 k3 HK
    go_wp2_with fail
    go_ret
    exact ⟨rfl, HP⟩
  | false =>
    have HLd' : Hid (LdsTo B w3 w3 bt xs N S) := hide_ ⟨p, q, xs, S, HT3.out, fun j y hy => ⟨y, hy⟩, fun j k hk => .inl hk, Upd.refl _ _⟩
    clear HLs
    obtain ⟨p', q', xs', S', hT4, hxs, hB4, hOa, hOb, na, nb, nab, nab2⟩ := HTl.out w3 HLd'.out
    have HT4 := hide_ hT4
    have HBy := hide_ (bok_bytes hT4.bk hOa (na 4) (by omega) (by omega))
    have HOb4 := hide_ hOb
    have HB4 := hide_ hB4
    have Nb := hide_ nb
    have Na := hide_ na
    have Nab := hide_ nab
    have Nab2 := hide_ nab2
    have HXs := hide_ hxs
    clear hT4 hOa hOb na nb nab nab2 hxs hB4
    go_wp2_with fail
    refine HBy.out.mono ?_
    rintro e w5 ⟨rfl, HK⟩
    clear hcv1 hcv2 hcv3
    obtain ⟨Z', k1, k2, k3⟩ := HK.out
    have hT5 := HT4.out.book Na.out (fun e => (Nab2.out bt e).2 rfl) k1 k2 k3
    have hOb5 := ownS_upd HOb4.out k2 (fun k hk e => by
      rcases e with e | e | e
      · exact (Nab.out k hk).2.2 e
      · exact (Nab.out k hk).2.1 e
      · exact Nb.out 4 k hk e)
    have n5 : ∀ j k, (Value.slice ab L.length cb).ownBlock = some k → ¬ up1 S' 4 Z' j k := fun j k hk e => by
      by_cases e4 : j = 4
      · subst e4
        rw [up1_at] at e
        rcases (k3 k e).1 with e | e | e
        · exact Nb.out 4 k hk e
        · exact (Nab.out k hk).2.1 e
        · have := (Nab.out k hk).1; omega
      · rw [up1_ne _ _ e4] at e
        exact Nb.out j k hk e
    have hB5 : Below B w w5 := HB4.out.trans (k2.below B HT4.out.base (fun k hk => by
      rcases hk with rfl | hk | hk
      · exact HT4.out.lt.1
      · exact (Nab2.out k hk).1
      · exact (HT4.out.ly 4 k hk).1))
    have HT5 := hide_ hT5
    have HBy2 := hide_ (bok_bytes hT5.bk hOb5 (n5 4) (by omega) (by omega))
    have N5 := hide_ n5
    have HB5 := hide_ hB5
    have HL5 : Hid (∀ k, (Value.slice ab L.length cb).ownBlock = some k → B ≤ k) := hide_ (fun k hk => (World.ownsRow.lt hOb5 k hk).1)
    clear hT5 hOb5 n5 hB5 k1 k2 k3 HK
    go_wp2_with fail
    refine HBy2.out.mono ?_
    rintro e w6 ⟨rfl, HK⟩
    obtain ⟨Z2, k1, k2, k3⟩ := HK.out
    have hT6 := HT5.out.book N5.out (fun e => (Nab.out bt e).2.2 rfl) k1 k2 k3
    have hB6 : Below B w w6 := HB5.out.trans (k2.below B HT5.out.base (fun k hk => by
      rcases hk with rfl | hk | hk
      · exact HT5.out.lt.1
      · exact HL5.out k hk
      · exact (HT5.out.ly 4 k hk).1))
    have HP : Hid (PlTo B w w6 bt xs (N + 2)) := hide_ ⟨_, _, _, _, hT6, HXs.out, hB6⟩
    clear hT6 hB6 k1 k2 k3 HK
    go_wp2_with fail
    go_ret
    exact ⟨rfl, HP⟩
end Go.Proofs.Ytcmkdkocponpiaa

/- mortiselaw22: tells. -/
namespace Go.Proofs.Ytcmkdkocponpiaa
open Go.RowKit
set_option linter.unusedVariables false

/-- The last frame, or none; what is answered of it. -/
def lastF (fs : List Fr) : Fr := match fs.getLast? with | none => fr0 | some f => f
def lastE (fs : List Fr) : Int := match fs.getLast? with | none => 220 | some _ => 0
theorem lastF_app (l : List Fr) (f : Fr) : lastF (l ++ [f]) = f := by simp [lastF]
theorem lastE_app (l : List Fr) (f : Fr) : lastE (l ++ [f]) = 0 := by simp [lastE]
theorem TopTo.all {w w' : World} {fs : List Fr} {e : Ending} (h : TopTo w fs e w') : ∃ a c, e = .returned (.tuple #[.agg #[.int .i64 (lastF fs).r, .int .i64 (lastF fs).a, .int .i64 (lastF fs).b, .int .i64 (lastF fs).e, .int .i64 (lastF fs).n, .int .i64 (lastF fs).x, .slice a (lastF fs).T.length c], .int .i64 (lastE fs)]) ∧ IOwn w' w.heap.size (.slice a (lastF fs).T.length c) (lastF fs).T ∧ Below w.heap.size w w' := by
  rcases h with ⟨rfl, rfl, h⟩ | ⟨l, f, a, c, rfl, rfl, h1, h2⟩
  · exact ⟨none, 0, rfl, IOwn.nil _ _, h⟩
  · rw [lastF_app, lastE_app]
    exact ⟨a, c, rfl, h1.out, h2⟩
theorem HeadTo.all {w w' : World} {fs : List Fr} {e : Ending} (h : HeadTo w fs e w') : e = .returned (.tuple #[.agg #[.int .i64 (lastF fs).r, .int .i64 (lastF fs).a, .int .i64 (lastF fs).b, .int .i64 (lastF fs).e, .int .i64 (lastF fs).n, .int .i64 (lastF fs).x, .slice none 0 0], .int .i64 (lastE fs)]) ∧ Below w.heap.size w w' := by
  rcases h with ⟨rfl, rfl, h⟩ | ⟨l, f, rfl, rfl, h⟩
  · exact ⟨rfl, h⟩
  · rw [lastF_app, lastE_app]
    exact ⟨rfl, h⟩
theorem Stk.lastl {w : World} {B g : Nat} {F : Nat → Prop} {fs : List Fr} {m h : Int} (H : Stk w B F g fs m h) : (lastF fs).T.length ≤ 1048576 := by
  obtain ⟨v, P, hM, rfl, -, -⟩ := H
  rcases List.eq_nil_or_concat (P.map (·.1)) with e | ⟨Q, f, e⟩
  · rw [e]; exact Nat.zero_le _
  · rw [List.concat_eq_append] at e
    rw [e, lastF_app]
    have : f ∈ P.map (·.1) := by rw [e]; simp
    obtain ⟨p, hp, rfl⟩ := List.mem_map.1 this
    exact (frB_is (hM.rt p hp)).1
set_option maxRecDepth 100000 in
set_option maxHeartbeats 16000000 in
theorem tells_any (B bt i : Nat) (p q : Nat → Value) (xs : Nat → Option Sk) (N : Nat) (S : Nat → Nat → Prop) (y : Sk) (w : World) (hT : Hid (Tab B w bt p q xs xs N S)) (hi : i < 2) (hy : xs i = some y) (hN : N ≤ 790) :
    Calls Try.prog 44 #[.pointer (some ⟨bt, 0, none⟩), .int .i64 (i : Int)] w fun e w' => e = .returned (.bool true) ∧ Hid (PlTo B w w' bt xs (N + 3)) := by
  obtain ⟨fs, m, h⟩ := y
  have hP := hT.out.ps i hi
  have hQ := hT.out.qs i hi
  rw [hy] at hP hQ
  obtain ⟨gp, hp, hS⟩ := hP.open
  obtain ⟨gq, hq, hR⟩ := hQ.open
  dsimp only at hS hR
  have hfl := hS.lastl
  have HS := hide_ hS
  have HR := hide_ hR
  have HBd := hide_ hT.out.lt
  have HBw := hide_ hT.out.base
  have hi' : (i : Int) < 2 := by omega
  have hcc := hT.out.cellP i hi
  have c0 := hcc.1
  have c1 := hT.out.cellQ i hi
  rw [hp] at c0
  rw [hq] at c1
  have HTop : Hid (∀ w', Below w.heap.size w w' → Calls Try.prog 17 #[.pointer (some ⟨gp, 0, none⟩)] w' fun e w'' => TopTo w' fs e w'') := hide_ (fun w' hb => top_any w' B (S i) gp fs m h (hide_ (HS.out.later hb)))
  have HRTop : Hid (∀ w', Below w.heap.size w w' → Calls Try.prog 63 #[.pointer (some ⟨gq, 0, none⟩)] w' fun e w'' => TopTo w' fs e w'') := hide_ (fun w' hb => rtop_any w' B (S (2 + i)) gq fs m h (hide_ (HR.out.later hb)))
  have HHead : Hid (∀ w', Below w.heap.size w w' → Calls Try.prog 28 #[.pointer (some ⟨gp, 0, none⟩)] w' fun e w'' => HeadTo w' fs e w'') := hide_ (fun w' hb => head_any w' B (S i) gp fs m h (hide_ (HS.out.later hb)))
  have HRHead : Hid (∀ w', Below w.heap.size w w' → Calls Try.prog 64 #[.pointer (some ⟨gq, 0, none⟩)] w' fun e w'' => HeadTo w' fs e w'') := hide_ (fun w' hb => rhead_any w' B (S (2 + i)) gq fs m h (hide_ (HR.out.later hb)))
  have HSl : Hid (∀ w', Below w.heap.size w w' → Calls Try.prog 20 #[.pointer (some ⟨gp, 0, none⟩)] w' fun e w'' => e = .returned (.int .i64 ((lastT fs).length : Int)) ∧ Below w'.heap.size w' w'') := hide_ (fun w' hb => slots_any w' B (S i) gp fs m h (hide_ (HS.out.later hb)))
  have HRSl : Hid (∀ w', Below w.heap.size w w' → Calls Try.prog 65 #[.pointer (some ⟨gq, 0, none⟩)] w' fun e w'' => e = .returned (.int .i64 ((lastT fs).length : Int)) ∧ Below w'.heap.size w' w'') := hide_ (fun w' hb => rslots_any w' B (S (2 + i)) gq fs m h (hide_ (HR.out.later hb)))
  obtain ⟨nT, hnT⟩ : ∃ nT : Int, ((lastT fs).length : Int) = nT := ⟨_, rfl⟩
  rw [hnT] at HSl HRSl
  have HTa : Hid (∀ w' e w'', TopTo w' fs e w'' → ∃ a c, e = .returned (.tuple #[.agg #[.int .i64 (lastF fs).r, .int .i64 (lastF fs).a, .int .i64 (lastF fs).b, .int .i64 (lastF fs).e, .int .i64 (lastF fs).n, .int .i64 (lastF fs).x, .slice a (lastF fs).T.length c], .int .i64 (lastE fs)]) ∧ IOwn w'' w'.heap.size (.slice a (lastF fs).T.length c) (lastF fs).T ∧ Below w'.heap.size w' w'') := hide_ (fun w' e w'' h => h.all)
  have HHa : Hid (∀ w' e w'', HeadTo w' fs e w'' → e = .returned (.tuple #[.agg #[.int .i64 (lastF fs).r, .int .i64 (lastF fs).a, .int .i64 (lastF fs).b, .int .i64 (lastF fs).e, .int .i64 (lastF fs).n, .int .i64 (lastF fs).x, .slice none 0 0], .int .i64 (lastE fs)]) ∧ Below w'.heap.size w' w'') := hide_ (fun w' e w'' h => h.all)
  obtain ⟨f, hf⟩ : ∃ f, lastF fs = f := ⟨_, rfl⟩
  obtain ⟨er, her⟩ : ∃ er, lastE fs = er := ⟨_, rfl⟩
  rw [hf, her] at HTa HHa
  rw [hf] at hfl
  have hy0 := hide_ hy
  have HB0 := hide_ (Below.refl w.heap.size w)
  clear hP hQ hS hR hp hq hy hf her hnT hcc
  go_enter Try.func44, Try.ntmps44
  go_wp2_with fail
  refine (HTop.out w HB0.out).mono ?_
  rintro e w1 hto
  obtain ⟨a1, d1, rfl, ho, hb⟩ := HTa.out _ _ _ hto
  clear hto
  obtain ⟨x1, hx⟩ : ∃ wx, wx = w1.alloc (.cells #[.int .i64 f.r, .int .i64 f.a, .int .i64 f.b, .int .i64 f.e, .int .i64 f.n, .int .i64 f.x, .slice a1 f.T.length d1] 39) := ⟨_, rfl⟩
  have hbx : Below w1.heap.size w1 x1 := by rw [hx]; exact below1 _ _
  have K1_1 : Hid (Blk x1 w1.heap.size 39 (frc (f, .slice a1 f.T.length d1))) := hide_ (by rw [hx]; exact Blk.newA w1 _ _)
  have hbb := below_to hb hbx
  have HB1 := hide_ (below_to HB0.out hbb)
  have HX1 : Hid (w1.heap.size < x1.heap.size) := hide_ K1_1.out.lt
  have HG1 : Hid (w.heap.size ≤ w1.heap.size) := hide_ hb.size
  have HO1_1 := hide_ (ho.later hbx)
  have HLo1 : Hid (∀ k, (Value.slice a1 f.T.length d1).ownBlock = some k → w.heap.size ≤ k ∧ k < w1.heap.size) := hide_ (fun k hk => World.ownsRow.lt ho k hk)
  clear hb hbx hbb ho
  go_upto_region 4 with fail
  rw [← hx]
  clear hx
  go_wp2_with fail
  refine (HTop.out x1 HB1.out).mono ?_
  rintro e w2 hto
  obtain ⟨a2, d2, rfl, ho, hb⟩ := HTa.out _ _ _ hto
  clear hto
  obtain ⟨x2, hx⟩ : ∃ wx, wx = w2.alloc (.cells #[.int .i64 f.r, .int .i64 f.a, .int .i64 f.b, .int .i64 f.e, .int .i64 f.n, .int .i64 f.x, .slice a2 f.T.length d2] 39) := ⟨_, rfl⟩
  have hbx : Below w2.heap.size w2 x2 := by rw [hx]; exact below1 _ _
  have K2_2 : Hid (Blk x2 w2.heap.size 39 (frc (f, .slice a2 f.T.length d2))) := hide_ (by rw [hx]; exact Blk.newA w2 _ _)
  have hbb := below_to hb hbx
  have HB2 := hide_ (below_to HB1.out hbb)
  have HX2 : Hid (w2.heap.size < x2.heap.size) := hide_ K2_2.out.lt
  have HG2 : Hid (x1.heap.size ≤ w2.heap.size) := hide_ hb.size
  have HO2_2 := hide_ (ho.later hbx)
  have HLo2 : Hid (∀ k, (Value.slice a2 f.T.length d2).ownBlock = some k → x1.heap.size ≤ k ∧ k < w2.heap.size) := hide_ (fun k hk => World.ownsRow.lt ho k hk)
  have K1_2 := hide_ (K1_1.out.later hbb)
  have HO1_2 := hide_ (HO1_1.out.later hbb)
  clear hb hbx hbb ho K1_1 HO1_1
  go_upto_region 5 with fail
  rw [← hx]
  clear hx
  go_wp2_with fail
  refine (HRTop.out x2 HB2.out).mono ?_
  rintro e w3 hto
  obtain ⟨a3, d3, rfl, ho, hb⟩ := HTa.out _ _ _ hto
  clear hto
  obtain ⟨x3, hx⟩ : ∃ wx, wx = w3.alloc (.cells #[.int .i64 f.r, .int .i64 f.a, .int .i64 f.b, .int .i64 f.e, .int .i64 f.n, .int .i64 f.x, .slice a3 f.T.length d3] 39) := ⟨_, rfl⟩
  have hbx : Below w3.heap.size w3 x3 := by rw [hx]; exact below1 _ _
  have K3_3 : Hid (Blk x3 w3.heap.size 39 (frc (f, .slice a3 f.T.length d3))) := hide_ (by rw [hx]; exact Blk.newA w3 _ _)
  have hbb := below_to hb hbx
  have HB3 := hide_ (below_to HB2.out hbb)
  have HX3 : Hid (w3.heap.size < x3.heap.size) := hide_ K3_3.out.lt
  have HG3 : Hid (x2.heap.size ≤ w3.heap.size) := hide_ hb.size
  have HO3_3 := hide_ (ho.later hbx)
  have K1_3 := hide_ (K1_2.out.later hbb)
  have HO1_3 := hide_ (HO1_2.out.later hbb)
  have K2_3 := hide_ (K2_2.out.later hbb)
  have HO2_3 := hide_ (HO2_2.out.later hbb)
  clear hb hbx hbb ho K1_2 K2_2 HO1_2 HO2_2
  go_upto_region 6 with fail
  rw [← hx]
  clear hx
  go_wp2_with fail
  refine (HHead.out x3 HB3.out).mono ?_
  rintro e w4 hto
  obtain ⟨rfl, hb⟩ := HHa.out _ _ _ hto
  clear hto
  obtain ⟨x4, hx⟩ : ∃ wx, wx = w4.alloc (.cells #[.int .i64 f.r, .int .i64 f.a, .int .i64 f.b, .int .i64 f.e, .int .i64 f.n, .int .i64 f.x, .slice none 0 0] 39) := ⟨_, rfl⟩
  have hbx : Below w4.heap.size w4 x4 := by rw [hx]; exact below1 _ _
  have K4_4 : Hid (Blk x4 w4.heap.size 39 (frc (f, .slice none 0 0))) := hide_ (by rw [hx]; exact Blk.newA w4 _ _)
  have hbb := below_to hb hbx
  have HB4 := hide_ (below_to HB3.out hbb)
  have HX4 : Hid (w4.heap.size < x4.heap.size) := hide_ K4_4.out.lt
  have HG4 : Hid (x3.heap.size ≤ w4.heap.size) := hide_ hb.size
  have K1_4 := hide_ (K1_3.out.later hbb)
  have HO1_4 := hide_ (HO1_3.out.later hbb)
  have K2_4 := hide_ (K2_3.out.later hbb)
  have HO2_4 := hide_ (HO2_3.out.later hbb)
  have K3_4 := hide_ (K3_3.out.later hbb)
  have HO3_4 := hide_ (HO3_3.out.later hbb)
  clear hb hbx hbb K1_3 K2_3 K3_3 HO1_3 HO2_3 HO3_3
  go_upto_region 7 with fail
  rw [← hx]
  clear hx
  go_wp2_with fail
  refine (HRHead.out x4 HB4.out).mono ?_
  rintro e w5 hto
  obtain ⟨rfl, hb⟩ := HHa.out _ _ _ hto
  clear hto
  obtain ⟨x5, hx⟩ : ∃ wx, wx = w5.alloc (.cells #[.int .i64 f.r, .int .i64 f.a, .int .i64 f.b, .int .i64 f.e, .int .i64 f.n, .int .i64 f.x, .slice none 0 0] 39) := ⟨_, rfl⟩
  have hbx : Below w5.heap.size w5 x5 := by rw [hx]; exact below1 _ _
  have K5_5 : Hid (Blk x5 w5.heap.size 39 (frc (f, .slice none 0 0))) := hide_ (by rw [hx]; exact Blk.newA w5 _ _)
  have hbb := below_to hb hbx
  have HB5 := hide_ (below_to HB4.out hbb)
  have HX5 : Hid (w5.heap.size < x5.heap.size) := hide_ K5_5.out.lt
  have HG5 : Hid (x4.heap.size ≤ w5.heap.size) := hide_ hb.size
  have K1_5 := hide_ (K1_4.out.later hbb)
  have HO1_5 := hide_ (HO1_4.out.later hbb)
  have K2_5 := hide_ (K2_4.out.later hbb)
  have HO2_5 := hide_ (HO2_4.out.later hbb)
  have K3_5 := hide_ (K3_4.out.later hbb)
  have HO3_5 := hide_ (HO3_4.out.later hbb)
  have K4_5 := hide_ (K4_4.out.later hbb)
  clear hb hbx hbb K1_4 K2_4 K3_4 K4_4 HO1_4 HO2_4 HO3_4
  go_upto_region 8 with fail
  rw [← hx]
  clear hx
  clear c0 c1
  have hfA : ∀ (v : Value) (w' : World) (B' : Nat) (a : Option Addr) (d : Nat), v = .slice a f.T.length d → IOwn w' B' v f.T → FrA w' f a d := fun v w' B' a d e ho => by
    subst e
    obtain ⟨a', c', e, h⟩ := ho.fra
    injection e with e1 _ e3
    subst e1 e3
    exact h
  have HfA := hide_ hfA
  clear hfA
  have HZ5 : Hid (x5.heap.size ≤ x5.heap.size) := hide_ (Nat.le_refl _)
  have HSm := hide_ (same_yes f a1 a3 d1 d3 x5 (hide_ (HfA.out _ _ _ _ _ rfl HO1_5.out)) (hide_ (HfA.out _ _ _ _ _ rfl HO3_5.out)))
  have hk1 := K1_5.out
  have l10 := hk1.cell 0; have l11 := hk1.cell 1; have l12 := hk1.cell 2; have l13 := hk1.cell 3; have l14 := hk1.cell 4; have l15 := hk1.cell 5; have l16 := hk1.cell 6
  simp [frc] at l10 l11 l12 l13 l14 l15 l16
  clear hk1
  have hk3 := K3_5.out
  have l30 := hk3.cell 0; have l31 := hk3.cell 1; have l32 := hk3.cell 2; have l33 := hk3.cell 3; have l34 := hk3.cell 4; have l35 := hk3.cell 5; have l36 := hk3.cell 6
  simp [frc] at l30 l31 l32 l33 l34 l35 l36
  clear hk3
  go_wp2_with fail
  refine HSm.out.mono ?_
  rintro e y1 ⟨rfl, hb⟩
  clear HSm l10 l11 l12 l13 l14 l15 l16 l30 l31 l32 l33 l34 l35 l36
  have HB6 := hide_ (below_to HB5.out hb)
  have K1_6 := hide_ (K1_5.out.later hb)
  have K2_6 := hide_ (K2_5.out.later hb)
  have K3_6 := hide_ (K3_5.out.later hb)
  have K4_6 := hide_ (K4_5.out.later hb)
  have K5_6 := hide_ (K5_5.out.later hb)
  have HO1_6 := hide_ (HO1_5.out.later hb)
  have HO2_6 := hide_ (HO2_5.out.later hb)
  have HO3_6 := hide_ (HO3_5.out.later hb)
  have HZ6 : Hid (x5.heap.size ≤ y1.heap.size) := hide_ (Nat.le_trans HZ5.out hb.size)
  clear K1_5 K2_5 K3_5 K4_5 K5_5 HO1_5 HO2_5 HO3_5
  clear hb
  have HSm := hide_ (same_yes f a2 a3 d2 d3 y1 (hide_ (HfA.out _ _ _ _ _ rfl HO2_6.out)) (hide_ (HfA.out _ _ _ _ _ rfl HO3_6.out)))
  have hk2 := K2_6.out
  have l20 := hk2.cell 0; have l21 := hk2.cell 1; have l22 := hk2.cell 2; have l23 := hk2.cell 3; have l24 := hk2.cell 4; have l25 := hk2.cell 5; have l26 := hk2.cell 6
  simp [frc] at l20 l21 l22 l23 l24 l25 l26
  clear hk2
  have hk3 := K3_6.out
  have l30 := hk3.cell 0; have l31 := hk3.cell 1; have l32 := hk3.cell 2; have l33 := hk3.cell 3; have l34 := hk3.cell 4; have l35 := hk3.cell 5; have l36 := hk3.cell 6
  simp [frc] at l30 l31 l32 l33 l34 l35 l36
  clear hk3
  go_wp2_with fail
  refine HSm.out.mono ?_
  rintro e y2 ⟨rfl, hb⟩
  clear HSm l20 l21 l22 l23 l24 l25 l26 l30 l31 l32 l33 l34 l35 l36
  have HB7 := hide_ (below_to HB6.out hb)
  have K1_7 := hide_ (K1_6.out.later hb)
  have K2_7 := hide_ (K2_6.out.later hb)
  have K3_7 := hide_ (K3_6.out.later hb)
  have K4_7 := hide_ (K4_6.out.later hb)
  have K5_7 := hide_ (K5_6.out.later hb)
  have HO1_7 := hide_ (HO1_6.out.later hb)
  have HO2_7 := hide_ (HO2_6.out.later hb)
  have HO3_7 := hide_ (HO3_6.out.later hb)
  have HZ7 : Hid (x5.heap.size ≤ y2.heap.size) := hide_ (Nat.le_trans HZ6.out hb.size)
  clear K1_6 K2_6 K3_6 K4_6 K5_6 HO1_6 HO2_6 HO3_6
  clear hb
  have HNum := hide_ (num_any er y2)
  have hA0 : FrA y2 ⟨f.r, f.a, f.b, f.e, f.n, f.x, []⟩ none 0 := ⟨.inl ⟨rfl, rfl⟩, fun _ => rfl, Nat.zero_le _⟩
  have HSm := hide_ (same_yes ⟨f.r, f.a, f.b, f.e, f.n, f.x, []⟩ none none 0 0 y2 (hide_ hA0) (hide_ hA0))
  clear hA0
  have hk4 := K4_7.out
  have l40 := hk4.cell 0; have l41 := hk4.cell 1; have l42 := hk4.cell 2; have l43 := hk4.cell 3; have l44 := hk4.cell 4; have l45 := hk4.cell 5; have l46 := hk4.cell 6
  simp [frc] at l40 l41 l42 l43 l44 l45 l46
  clear hk4
  have hk5 := K5_7.out
  have l50 := hk5.cell 0; have l51 := hk5.cell 1; have l52 := hk5.cell 2; have l53 := hk5.cell 3; have l54 := hk5.cell 4; have l55 := hk5.cell 5; have l56 := hk5.cell 6
  simp [frc] at l50 l51 l52 l53 l54 l55 l56
  clear hk5
  go_wp2_with fail
  refine HNum.out.mono ?_
  rintro e w' ⟨rfl, rfl⟩
  go_wp2_with fail
  refine HNum.out.mono ?_
  rintro e w' ⟨rfl, rfl⟩
  go_wp2_with fail
  refine HSm.out.mono ?_
  rintro e y3 ⟨rfl, hb⟩
  clear HSm HNum l40 l41 l42 l43 l44 l45 l46 l50 l51 l52 l53 l54 l55 l56
  have HB8 := hide_ (below_to HB7.out hb)
  have K1_8 := hide_ (K1_7.out.later hb)
  have K2_8 := hide_ (K2_7.out.later hb)
  have K4_8 := hide_ (K4_7.out.later hb)
  have HO1_8 := hide_ (HO1_7.out.later hb)
  have HO2_8 := hide_ (HO2_7.out.later hb)
  have HZ8 : Hid (x5.heap.size ≤ y3.heap.size) := hide_ (Nat.le_trans HZ7.out hb.size)
  clear K1_7 K2_7 K4_7 HO1_7 HO2_7
  clear hb K3_7 K5_7 HO3_7
  have HNum := hide_ (num_any er y3)
  go_wp2_with fail
  refine HNum.out.mono ?_
  rintro e w' ⟨rfl, rfl⟩
  go_wp2_with fail
  refine (HSl.out y3 HB8.out).mono ?_
  rintro e y4 ⟨rfl, hb⟩
  clear HNum
  have HB9 := hide_ (below_to HB8.out hb)
  have K1_9 := hide_ (K1_8.out.later hb)
  have K2_9 := hide_ (K2_8.out.later hb)
  have K4_9 := hide_ (K4_8.out.later hb)
  have HO1_9 := hide_ (HO1_8.out.later hb)
  have HO2_9 := hide_ (HO2_8.out.later hb)
  have HZ9 : Hid (x5.heap.size ≤ y4.heap.size) := hide_ (Nat.le_trans HZ8.out hb.size)
  clear K1_8 K2_8 K4_8 HO1_8 HO2_8
  clear hb
  go_wp2_with fail
  refine (HRSl.out y4 HB9.out).mono ?_
  rintro e y5 ⟨rfl, hb⟩
  have HB10 := hide_ (below_to HB9.out hb)
  have K1_10 := hide_ (K1_9.out.later hb)
  have K2_10 := hide_ (K2_9.out.later hb)
  have K4_10 := hide_ (K4_9.out.later hb)
  have HO1_10 := hide_ (HO1_9.out.later hb)
  have HO2_10 := hide_ (HO2_9.out.later hb)
  have HZ10 : Hid (x5.heap.size ≤ y5.heap.size) := hide_ (Nat.le_trans HZ9.out hb.size)
  clear K1_9 K2_9 K4_9 HO1_9 HO2_9
  clear hb
  have HCh : Hid (bt < w.heap.size ∧ B ≤ w.heap.size ∧ B ≤ bt ∧ w.heap.size ≤ w1.heap.size ∧ w1.heap.size < x1.heap.size ∧ x1.heap.size ≤ w2.heap.size ∧ w2.heap.size < x2.heap.size ∧ x2.heap.size ≤ w4.heap.size ∧ w4.heap.size < x4.heap.size ∧ x4.heap.size ≤ y5.heap.size) := hide_ (by
    have h1 := HBd.out; have h2 := HBw.out; have h3 := HG1.out; have h4 := HG2.out; have h5 := HG3.out; have h6 := HG4.out; have h7 := HG5.out
    have i1 := HX1.out; have i2 := HX2.out; have i3 := HX3.out; have i4 := HX4.out; have i5 := HX5.out; have i6 := HZ10.out
    omega)
  have HSk : Hid (∀ j k, S j k → B ≤ k ∧ k < w.heap.size ∧ k ≠ bt) := hide_ hT.out.ly
  have HT5 := hide_ (hT.out.later (below_to HB10.out ((Below.refl y5.heap.size y5).drew)))
  have HOa := hide_ (own_base (HO1_10.out.later (w' := y5.drew) ((Below.refl y5.heap.size y5).drew)) HBw.out)
  have HO2 := hide_ (own_base (HO2_10.out.later (w' := y5.drew) ((Below.refl y5.heap.size y5).drew)) (show B ≤ x1.heap.size by have := HCh.out; omega))
  have HK1 := hide_ K1_10.out.drew
  have HK2 := hide_ K2_10.out.drew
  have HK4 := hide_ K4_10.out.drew
  have HBy : Hid (Below B w y5.drew) := hide_ ((below_to HB10.out ((Below.refl y5.heap.size y5).drew)).mono HBw.out)
  clear HO1_10 HO2_10 K1_10 K2_10 K4_10 HG1 HG2 HG3 HG4 HG5 HX1 HX2 HX3 HX4 HX5
  -- the first list
  have HTb := hide_ (bok_table HT5.out.bk HOa.out (fun k hk e => by have := HLo1.out k hk; have := HSk.out 4 k e; omega) (by omega) (by omega))
  have HS6 : Hid ((fun w' => w'.cell? ⟨w1.heap.size, 6, none⟩ = some (.slice a1 f.T.length d1)) y5.drew) := hide_ (HK1.out.cell 6)
  go_upto_region 9 with fail
  refine wp_region_last 5 (fun w' => w'.cell? ⟨w1.heap.size, 6, none⟩ = some (.slice a1 f.T.length d1)) (by kernel_rfl) (HS6.out) (fun hHeld => ?_)
  refine wpAnyF_take [5, 2, 1] (by kernel_rfl) (i := 0) (v := ?vp1) rfl (by kernel_rfl) (by kernel_rfl) (by kernel_rfl) (fun _ _ _ h => h) (Or.inl ⟨by kernel_rfl, ?hyp1⟩) hHeld ?restp1
  case hyp1 => intro w' hSw; (try dsimp only at hSw); go_simp; try with_reducible rfl
  simp only [Act.put]
  try dsimp only
  refine wpAnyF_take [5, 2] (by kernel_rfl) (i := 1) (v := ?vp2) rfl (by kernel_rfl) (by kernel_rfl) (by kernel_rfl) (fun _ _ _ h => h) (Or.inl ⟨by kernel_rfl, ?hyp2⟩) hHeld ?restp2
  case hyp2 => intro w' hSw; (try dsimp only at hSw); go_simp; try with_reducible rfl
  simp only [Act.put]
  try dsimp only
  refine wpAnyF_take [5] (by kernel_rfl) (i := 2) (v := ?vp3) rfl (by kernel_rfl) (by kernel_rfl) (by kernel_rfl) (fun _ _ _ h => h) (Or.inl ⟨by kernel_rfl, ?hyp3⟩) hHeld ?restp3
  case hyp3 => intro w' hSw; (try dsimp only at hSw); go_simp; try with_reducible rfl
  simp only [Act.put]
  try dsimp only
  refine wpAnyF_take [5, 4] (by kernel_rfl) (i := 3) (v := ?vp4) rfl (by kernel_rfl) (by kernel_rfl) (by kernel_rfl) (fun _ _ _ h => h) (Or.inl ⟨by kernel_rfl, ?hyp4⟩) hHeld ?restp4
  case hyp4 => intro w' hSw; (try dsimp only at hSw); go_simp; try with_reducible rfl
  simp only [Act.put]
  try dsimp only
  refine wpAnyF_take [5] (by kernel_rfl) (i := 4) (v := ?vp5) rfl (by kernel_rfl) (by kernel_rfl) (by kernel_rfl) (fun _ _ _ h => h) (Or.inl ⟨by kernel_rfl, ?hyp5⟩) hHeld ?restp5
  case hyp5 => intro w' hSw; (try dsimp only at hSw); go_simp; try with_reducible rfl
  simp only [Act.put]
  try dsimp only
  refine wpAnyF_ready (rs := [5]) (by kernel_rfl) (by simp) ?_
  refine AllReadyF.last rfl (fun K hK => ?_)
  go_simp
  refine HTb.out.mono ?_
  rintro e z1 ⟨rfl, HK⟩
  dsimp only
  refine hK.out _ _ ?_
  clear hK K
  refine wpAnyF_done (by kernel_rfl) ?_ _
  obtain ⟨Z1, k1, k2, k3⟩ := HK.out
  have HU : Hid (∀ k, (k = bt ∨ (Value.slice a1 f.T.length d1).ownBlock = some k ∨ S 4 k) → B ≤ k ∧ k < w1.heap.size) := hide_ (fun k hk => by
    have hN := HCh.out
    rcases hk with e | e | e
    · omega
    · have := HLo1.out k e; omega
    · have := HSk.out 4 k e; omega)
  have HZ1 : Hid (∀ k, Z1 k → k < w1.heap.size ∨ y5.heap.size ≤ k) := hide_ (fun k hk => by
    have hN := HCh.out
    rcases (k3 k hk).1 with e | e | e
    · have := HSk.out 4 k e; omega
    · have := HLo1.out k e; omega
    · exact .inr e)
  have hT6 := HT5.out.book (v := .slice a1 f.T.length d1) (fun j k hk e => by have := HLo1.out k hk; have := HSk.out j k e; omega) (fun e => by have := HLo1.out _ e; have := HCh.out; omega) k1 k2 k3
  have HOb := hide_ (ownS_upd HO2.out k2 (fun k hk e => by have := HLo2.out k hk; have := HU.out k e; have := HCh.out; omega))
  have HK2b := hide_ (HK2.out.upd k2 (fun e => by have := HU.out _ e; have := HCh.out; omega))
  have HK4b := hide_ (HK4.out.upd k2 (fun e => by have := HU.out _ e; have := HCh.out; omega))
  have HBz := hide_ (HBy.out.trans (k2.below B (show B ≤ y5.drew.heap.size from Nat.le_trans HBw.out (Nat.le_trans HB10.out.size (Nat.le_refl _))) (fun k hk => (HU.out k hk).1)))
  have HSz : Hid (y5.heap.size ≤ z1.heap.size) := hide_ k2.size
  have HT6 := hide_ (hT6.later (w' := z1.drew) ((Below.refl z1.heap.size z1).drew))
  clear HTb HS6 HK k1 k2 k3 hT6 HT5 HOa HO2 HK1 HK2 HK4 HU
  have HOc : Hid (IOwn z1.drew B (.slice a2 f.T.length d2) f.T) := hide_ (ownS_upd HOb.out (Upd.refl (fun _ => False) z1).drew (fun _ _ h => h))
  have HN6 : Hid (∀ j k, (Value.slice a2 f.T.length d2).ownBlock = some k → ¬ up1 S 4 Z1 j k) := hide_ (fun j k hk e => by
    have hk2 := HLo2.out k hk
    have hN := HCh.out
    by_cases e4 : j = 4
    · subst e4
      rw [up1_at] at e
      have := HZ1.out k e
      omega
    · rw [up1_ne _ _ e4] at e
      have := HSk.out j k e
      omega)
  -- the second
  have HTb := hide_ (bok_table HT6.out.bk HOc.out (HN6.out 4) (by omega) (by omega))
  have HS6 : Hid ((fun w' => w'.cell? ⟨w2.heap.size, 6, none⟩ = some (.slice a2 f.T.length d2)) z1.drew) := hide_ (HK2b.out.drew.cell 6)
  go_upto_region 10 with fail
  refine wp_region_last 5 (fun w' => w'.cell? ⟨w2.heap.size, 6, none⟩ = some (.slice a2 f.T.length d2)) (by kernel_rfl) (HS6.out) (fun hHeld => ?_)
  refine wpAnyF_take [5, 2, 1] (by kernel_rfl) (i := 0) (v := ?vq1) rfl (by kernel_rfl) (by kernel_rfl) (by kernel_rfl) (fun _ _ _ h => h) (Or.inl ⟨by kernel_rfl, ?hyq1⟩) hHeld ?restq1
  case hyq1 => intro w' hSw; (try dsimp only at hSw); go_simp; try with_reducible rfl
  simp only [Act.put]
  try dsimp only
  refine wpAnyF_take [5, 2] (by kernel_rfl) (i := 1) (v := ?vq2) rfl (by kernel_rfl) (by kernel_rfl) (by kernel_rfl) (fun _ _ _ h => h) (Or.inl ⟨by kernel_rfl, ?hyq2⟩) hHeld ?restq2
  case hyq2 => intro w' hSw; (try dsimp only at hSw); go_simp; try with_reducible rfl
  simp only [Act.put]
  try dsimp only
  refine wpAnyF_take [5] (by kernel_rfl) (i := 2) (v := ?vq3) rfl (by kernel_rfl) (by kernel_rfl) (by kernel_rfl) (fun _ _ _ h => h) (Or.inl ⟨by kernel_rfl, ?hyq3⟩) hHeld ?restq3
  case hyq3 => intro w' hSw; (try dsimp only at hSw); go_simp; try with_reducible rfl
  simp only [Act.put]
  try dsimp only
  refine wpAnyF_take [5, 4] (by kernel_rfl) (i := 3) (v := ?vq4) rfl (by kernel_rfl) (by kernel_rfl) (by kernel_rfl) (fun _ _ _ h => h) (Or.inl ⟨by kernel_rfl, ?hyq4⟩) hHeld ?restq4
  case hyq4 => intro w' hSw; (try dsimp only at hSw); go_simp; try with_reducible rfl
  simp only [Act.put]
  try dsimp only
  refine wpAnyF_take [5] (by kernel_rfl) (i := 4) (v := ?vq5) rfl (by kernel_rfl) (by kernel_rfl) (by kernel_rfl) (fun _ _ _ h => h) (Or.inl ⟨by kernel_rfl, ?hyq5⟩) hHeld ?restq5
  case hyq5 => intro w' hSw; (try dsimp only at hSw); go_simp; try with_reducible rfl
  simp only [Act.put]
  try dsimp only
  refine wpAnyF_ready (rs := [5]) (by kernel_rfl) (by simp) ?_
  refine AllReadyF.last rfl (fun K hK => ?_)
  go_simp
  refine HTb.out.mono ?_
  rintro e z2 ⟨rfl, HK⟩
  dsimp only
  refine hK.out _ _ ?_
  clear hK K
  refine wpAnyF_done (by kernel_rfl) ?_ _
  obtain ⟨Z2, k1, k2, k3⟩ := HK.out
  have HU : Hid (∀ k, (k = bt ∨ (Value.slice a2 f.T.length d2).ownBlock = some k ∨ up1 S 4 Z1 4 k) → B ≤ k ∧ (k < w2.heap.size ∨ y5.heap.size ≤ k)) := hide_ (fun k hk => by
    have hN := HCh.out
    rcases hk with e | e | e
    · omega
    · have := HLo2.out k e; omega
    · have h1 := (HT6.out.ly 4 k e).1
      rw [up1_at] at e
      have := HZ1.out k e
      omega)
  have hT7 := HT6.out.book (v := .slice a2 f.T.length d2) HN6.out (fun e => by have := HLo2.out _ e; have := HCh.out; omega) k1 k2 k3
  have HK4c := hide_ (HK4b.out.drew.upd k2 (fun e => by have := (HU.out _ e).2; have := HCh.out; omega))
  have HBz2 := hide_ ((HBz.out.trans ((Below.refl z1.heap.size z1).drew.mono (Nat.le_trans HBw.out (Nat.le_trans HB10.out.size HSz.out)))).trans (k2.below B HT6.out.base (fun k hk => (HU.out k hk).1)))
  have HSz2 : Hid (z1.heap.size ≤ z2.heap.size) := hide_ k2.size
  have HT7 := hide_ (hT7.later (w' := z2.drew) ((Below.refl z2.heap.size z2).drew))
  clear HTb HS6 HK k1 k2 k3 hT7 HOb HOc HN6 HK2b HK4b HU HT6
  -- the third: no list
  have HTb := hide_ (bok_table (v := .slice none 0 0) (D := []) HT7.out.bk (IOwn.nil _ _) (fun k hk => by cases hk) (by omega) (by decide))
  have HS6 : Hid ((fun w' => w'.cell? ⟨w4.heap.size, 6, none⟩ = some (.slice none 0 0)) z2.drew) := hide_ (HK4c.out.drew.cell 6)
  go_upto_region 11 with fail
  refine wp_region_last 5 (fun w' => w'.cell? ⟨w4.heap.size, 6, none⟩ = some (.slice none 0 0)) (by kernel_rfl) (HS6.out) (fun hHeld => ?_)
  refine wpAnyF_take [5, 2, 1] (by kernel_rfl) (i := 0) (v := ?vr1) rfl (by kernel_rfl) (by kernel_rfl) (by kernel_rfl) (fun _ _ _ h => h) (Or.inl ⟨by kernel_rfl, ?hyr1⟩) hHeld ?restr1
  case hyr1 => intro w' hSw; (try dsimp only at hSw); go_simp; try with_reducible rfl
  simp only [Act.put]
  try dsimp only
  refine wpAnyF_take [5, 2] (by kernel_rfl) (i := 1) (v := ?vr2) rfl (by kernel_rfl) (by kernel_rfl) (by kernel_rfl) (fun _ _ _ h => h) (Or.inl ⟨by kernel_rfl, ?hyr2⟩) hHeld ?restr2
  case hyr2 => intro w' hSw; (try dsimp only at hSw); go_simp; try with_reducible rfl
  simp only [Act.put]
  try dsimp only
  refine wpAnyF_take [5] (by kernel_rfl) (i := 2) (v := ?vr3) rfl (by kernel_rfl) (by kernel_rfl) (by kernel_rfl) (fun _ _ _ h => h) (Or.inl ⟨by kernel_rfl, ?hyr3⟩) hHeld ?restr3
  case hyr3 => intro w' hSw; (try dsimp only at hSw); go_simp; try with_reducible rfl
  simp only [Act.put]
  try dsimp only
  refine wpAnyF_take [5, 4] (by kernel_rfl) (i := 3) (v := ?vr4) rfl (by kernel_rfl) (by kernel_rfl) (by kernel_rfl) (fun _ _ _ h => h) (Or.inl ⟨by kernel_rfl, ?hyr4⟩) hHeld ?restr4
  case hyr4 => intro w' hSw; (try dsimp only at hSw); go_simp; try with_reducible rfl
  simp only [Act.put]
  try dsimp only
  refine wpAnyF_take [5] (by kernel_rfl) (i := 4) (v := ?vr5) rfl (by kernel_rfl) (by kernel_rfl) (by kernel_rfl) (fun _ _ _ h => h) (Or.inl ⟨by kernel_rfl, ?hyr5⟩) hHeld ?restr5
  case hyr5 => intro w' hSw; (try dsimp only at hSw); go_simp; try with_reducible rfl
  simp only [Act.put]
  try dsimp only
  refine wpAnyF_ready (rs := [5]) (by kernel_rfl) (by simp) ?_
  refine AllReadyF.last rfl (fun K hK => ?_)
  go_simp
  refine HTb.out.mono ?_
  rintro e z3 ⟨rfl, HK⟩
  dsimp only
  refine hK.out _ _ ?_
  clear hK K
  refine wpAnyF_done (by kernel_rfl) ?_ _
  obtain ⟨Z3, k1, k2, k3⟩ := HK.out
  have hT8 := HT7.out.book (v := .slice none 0 0) (fun j k hk => by cases hk) (fun e => by cases e) k1 k2 k3
  have hB8 : Below B w z3 := (HBz2.out.trans ((Below.refl z2.heap.size z2).drew.mono (Nat.le_trans HBw.out (Nat.le_trans HB10.out.size (Nat.le_trans HSz.out HSz2.out))))).trans (k2.below B HT7.out.base (fun k hk => by
    rcases hk with e | e | e
    · rw [e]; exact HBd.out.1
    · cases e
    · exact (HT7.out.ly 4 k e).1))
  have HP : Hid (PlTo B w z3 bt xs (N + 3)) := hide_ ⟨_, _, _, _, hT8, fun j y hy => ⟨y, hy⟩, hB8⟩
  clear HTb HS6 HK k1 k2 k3 hT8 hB8
  go_wp2_with fail
  go_ret
  exact ⟨rfl, HP⟩
end Go.Proofs.Ytcmkdkocponpiaa

/- mortiselaw22: what both stacks answer to the same call. -/
namespace Go.Proofs.Ytcmkdkocponpiaa
open Go.RowKit
set_option linter.unusedVariables false

theorem app_inj {α : Type} {l l' : List α} {y y' : α} (h : l ++ [y] = l' ++ [y']) : l = l' ∧ y = y' := by
  have := List.append_inj' h rfl
  exact ⟨this.1, by simpa using this.2⟩
theorem app_ne {α : Type} {l : List α} {y : α} : ¬ l ++ [y] = [] := by simp
theorem push_both {w w' : World} {B g : Nat} {F : Nat → Prop} {fs : List Fr} {m h : Int} {f : Fr} {e : Ending} (H : PushTo w B F g fs m h f e w') :
    ∃ er fs' h', e = .returned (.int .i64 er) ∧ StkTo w B F w' g fs' m h' ∧ ∀ (w1 w2 : World) (F1 : Nat → Prop) (g1 : Nat) (e1 : Ending), RPushTo w1 B F1 g1 fs m h f e1 w2 → e1 = .returned (.int .i64 er) ∧ RSkTo w1 B F1 w2 g1 fs' m h' := by
  rcases H with ⟨h1, rfl, h2⟩ | ⟨h1, h3, rfl, h2⟩ | ⟨h1, h3, rfl, h2⟩
  · refine ⟨_, _, _, rfl, h2, fun w1 w2 F1 g1 e1 K => ?_⟩
    rcases K with ⟨k1, rfl, k2⟩ | ⟨k1, k3, rfl, k2⟩ | ⟨k1, k3, rfl, k2⟩
    · exact ⟨rfl, k2⟩
    · omega
    · omega
  · refine ⟨_, _, _, rfl, h2, fun w1 w2 F1 g1 e1 K => ?_⟩
    rcases K with ⟨k1, rfl, k2⟩ | ⟨k1, k3, rfl, k2⟩ | ⟨k1, k3, rfl, k2⟩
    · omega
    · exact ⟨rfl, k2⟩
    · rw [h3] at k3; cases k3
  · refine ⟨_, _, _, rfl, h2, fun w1 w2 F1 g1 e1 K => ?_⟩
    rcases K with ⟨k1, rfl, k2⟩ | ⟨k1, k3, rfl, k2⟩ | ⟨k1, k3, rfl, k2⟩
    · omega
    · rw [h3] at k3; cases k3
    · exact ⟨rfl, k2⟩
theorem set_both {w w' : World} {B g : Nat} {F : Nat → Prop} {fs : List Fr} {m h : Int} {f : Fr} {e : Ending} (H : SetTo w B F g fs m h f e w') :
    ∃ er fs' h', e = .returned (.int .i64 er) ∧ StkTo w B F w' g fs' m h' ∧ ∀ (w1 w2 : World) (F1 : Nat → Prop) (g1 : Nat) (e1 : Ending), RSetTo w1 B F1 g1 fs m h f e1 w2 → e1 = .returned (.int .i64 er) ∧ RSkTo w1 B F1 w2 g1 fs' m h' := by
  rcases H with ⟨h1, rfl, h2⟩ | ⟨h1, h3, rfl, h2⟩ | ⟨l, y, h1, h3, rfl, h2⟩
  · refine ⟨_, _, _, rfl, h2, fun w1 w2 F1 g1 e1 K => ?_⟩
    rcases K with ⟨k1, rfl, k2⟩ | ⟨k1, k3, rfl, k2⟩ | ⟨l', y', k1, k3, rfl, k2⟩
    · exact ⟨rfl, k2⟩
    · exact absurd h1 k1
    · exact absurd (k1.symm.trans h1) app_ne
  · refine ⟨_, _, _, rfl, h2, fun w1 w2 F1 g1 e1 K => ?_⟩
    rcases K with ⟨k1, rfl, k2⟩ | ⟨k1, k3, rfl, k2⟩ | ⟨l', y', k1, k3, rfl, k2⟩
    · exact absurd k1 h1
    · exact ⟨rfl, k2⟩
    · rw [h3] at k3; cases k3
  · refine ⟨_, _, _, rfl, h2, fun w1 w2 F1 g1 e1 K => ?_⟩
    rcases K with ⟨k1, rfl, k2⟩ | ⟨k1, k3, rfl, k2⟩ | ⟨l', y', k1, k3, rfl, k2⟩
    · exact absurd (h1.symm.trans k1) app_ne
    · rw [h3] at k3; cases k3
    · obtain ⟨rfl, rfl⟩ := app_inj (h1.symm.trans k1)
      exact ⟨rfl, k2⟩
theorem go_both {w w' : World} {B g : Nat} {F : Nat → Prop} {fs : List Fr} {m h : Int} {f : Fr} {e : Ending} (H : GoTo w B F g fs m h f e w') :
    ∃ er fs' h', e = .returned (.int .i64 er) ∧ StkTo w B F w' g fs' m h' ∧ ∀ (w1 w2 : World) (F1 : Nat → Prop) (g1 : Nat) (e1 : Ending), RGoTo w1 B F1 g1 fs m h f e1 w2 → e1 = .returned (.int .i64 er) ∧ RSkTo w1 B F1 w2 g1 fs' m h' := by
  rcases H with ⟨h1, rfl, h2⟩ | ⟨h1, h3, rfl, h2⟩ | ⟨l, y, h1, h3, rfl, h2⟩
  · refine ⟨_, _, _, rfl, h2, fun w1 w2 F1 g1 e1 K => ?_⟩
    rcases K with ⟨k1, rfl, k2⟩ | ⟨k1, k3, rfl, k2⟩ | ⟨l', y', k1, k3, rfl, k2⟩
    · exact ⟨rfl, k2⟩
    · exact absurd h1 k1
    · exact absurd (k1.symm.trans h1) app_ne
  · refine ⟨_, _, _, rfl, h2, fun w1 w2 F1 g1 e1 K => ?_⟩
    rcases K with ⟨k1, rfl, k2⟩ | ⟨k1, k3, rfl, k2⟩ | ⟨l', y', k1, k3, rfl, k2⟩
    · exact absurd k1 h1
    · exact ⟨rfl, k2⟩
    · rw [h3] at k3; cases k3
  · refine ⟨_, _, _, rfl, h2, fun w1 w2 F1 g1 e1 K => ?_⟩
    rcases K with ⟨k1, rfl, k2⟩ | ⟨k1, k3, rfl, k2⟩ | ⟨l', y', k1, k3, rfl, k2⟩
    · exact absurd (h1.symm.trans k1) app_ne
    · rw [h3] at k3; cases k3
    · obtain ⟨rfl, rfl⟩ := app_inj (h1.symm.trans k1)
      exact ⟨rfl, k2⟩
theorem mark_both {w w' : World} {B g : Nat} {F : Nat → Prop} {fs : List Fr} {m h : Int} {x : Int} {e : Ending} (H : MarkTo w B F g fs m h x e w') :
    ∃ er fs' h', e = .returned (.int .i64 er) ∧ StkTo w B F w' g fs' m h' ∧ ∀ (w1 w2 : World) (F1 : Nat → Prop) (g1 : Nat) (e1 : Ending), RMarkTo w1 B F1 g1 fs m h x e1 w2 → e1 = .returned (.int .i64 er) ∧ RSkTo w1 B F1 w2 g1 fs' m h' := by
  rcases H with ⟨h1, rfl, h2⟩ | ⟨h1, h3, rfl, h2⟩ | ⟨h1, h3, h4, rfl, h2⟩ | ⟨l, y, h1, h3, h4, rfl, h2⟩
  · refine ⟨_, _, _, rfl, h2, fun w1 w2 F1 g1 e1 K => ?_⟩
    rcases K with ⟨k1, rfl, k2⟩ | ⟨k1, k3, rfl, k2⟩ | ⟨k1, k3, k4, rfl, k2⟩ | ⟨l', y', k1, k3, k4, rfl, k2⟩
    · exact ⟨rfl, k2⟩
    · exact absurd h1 k1
    · exact absurd h1 k1
    · exact absurd (k1.symm.trans h1) app_ne
  · refine ⟨_, _, _, rfl, h2, fun w1 w2 F1 g1 e1 K => ?_⟩
    rcases K with ⟨k1, rfl, k2⟩ | ⟨k1, k3, rfl, k2⟩ | ⟨k1, k3, k4, rfl, k2⟩ | ⟨l', y', k1, k3, k4, rfl, k2⟩
    · exact absurd k1 h1
    · exact ⟨rfl, k2⟩
    · rw [h3] at k3; cases k3
    · rw [h3] at k3; cases k3
  · refine ⟨_, _, _, rfl, h2, fun w1 w2 F1 g1 e1 K => ?_⟩
    rcases K with ⟨k1, rfl, k2⟩ | ⟨k1, k3, rfl, k2⟩ | ⟨k1, k3, k4, rfl, k2⟩ | ⟨l', y', k1, k3, k4, rfl, k2⟩
    · exact absurd k1 h1
    · rw [h3] at k3; cases k3
    · exact ⟨rfl, k2⟩
    · rw [k1, lastT_app] at h4; omega
  · refine ⟨_, _, _, rfl, h2, fun w1 w2 F1 g1 e1 K => ?_⟩
    rcases K with ⟨k1, rfl, k2⟩ | ⟨k1, k3, rfl, k2⟩ | ⟨k1, k3, k4, rfl, k2⟩ | ⟨l', y', k1, k3, k4, rfl, k2⟩
    · exact absurd (h1.symm.trans k1) app_ne
    · rw [h3] at k3; cases k3
    · rw [h1, lastT_app] at k4; omega
    · obtain ⟨rfl, rfl⟩ := app_inj (h1.symm.trans k1)
      exact ⟨rfl, k2⟩
theorem slot_both {w w' : World} {fs : List Fr} {k : Int} {e : Ending} (H : SlotTo w fs k e w') :
    ∃ v er, e = .returned (.tuple #[.int .i64 v, .int .i64 er]) ∧ Below w.heap.size w w' ∧ ∀ (w1 w2 : World) (e1 : Ending), SlotTo w1 fs k e1 w2 → e1 = .returned (.tuple #[.int .i64 v, .int .i64 er]) ∧ Below w1.heap.size w1 w2 := by
  rcases H with ⟨h1, rfl, h2⟩ | ⟨h1, h3, rfl, h2⟩ | ⟨h1, h3, h4, rfl, h2⟩
  · refine ⟨_, _, rfl, h2, fun w1 w2 e1 K => ?_⟩
    rcases K with ⟨k1, rfl, k2⟩ | ⟨k1, k3, rfl, k2⟩ | ⟨k1, k3, k4, rfl, k2⟩
    · exact ⟨rfl, k2⟩
    · exact absurd h1 k1
    · exact absurd h1 k1
  · refine ⟨_, _, rfl, h2, fun w1 w2 e1 K => ?_⟩
    rcases K with ⟨k1, rfl, k2⟩ | ⟨k1, k3, rfl, k2⟩ | ⟨k1, k3, k4, rfl, k2⟩
    · exact absurd k1 h1
    · exact ⟨rfl, k2⟩
    · exact absurd ⟨k3, k4⟩ h3
  · refine ⟨_, _, rfl, h2, fun w1 w2 e1 K => ?_⟩
    rcases K with ⟨k1, rfl, k2⟩ | ⟨k1, k3, rfl, k2⟩ | ⟨k1, k3, k4, rfl, k2⟩
    · exact absurd k1 h1
    · exact absurd ⟨h3, h4⟩ k3
    · exact ⟨rfl, k2⟩
/-- Pop: what both answer. -/
theorem pop_both {w w' : World} {B g : Nat} {F : Nat → Prop} {fs : List Fr} {m h : Int} {e : Ending} (H : PopTo w B F g fs m h e w') :
    ∃ (f : Fr) (er : Int) (a : Option Addr) (c : Nat) (fs' : List Fr), e = .returned (.tuple #[.agg #[.int .i64 f.r, .int .i64 f.a, .int .i64 f.b, .int .i64 f.e, .int .i64 f.n, .int .i64 f.x, .slice a f.T.length c], .int .i64 er]) ∧ IOwn w' w.heap.size (.slice a f.T.length c) f.T ∧ Stk w' B F g fs' m h ∧ Upd F w w' ∧
      (f = fr0 ∨ f ∈ fs) ∧
      ∀ (w1 w2 : World) (F1 : Nat → Prop) (g1 : Nat) (e1 : Ending), RPopTo w1 B F1 g1 fs m h e1 w2 → ∃ a1 c1, e1 = .returned (.tuple #[.agg #[.int .i64 f.r, .int .i64 f.a, .int .i64 f.b, .int .i64 f.e, .int .i64 f.n, .int .i64 f.x, .slice a1 f.T.length c1], .int .i64 er]) ∧ IOwn w2 w1.heap.size (.slice a1 f.T.length c1) f.T ∧ RSk w2 B F1 g1 fs' m h ∧ Upd F1 w1 w2 := by
  rcases H with ⟨h1, rfl, h2, h3⟩ | ⟨l, f, a, c, h1, rfl, ho, h2, h3⟩
  · refine ⟨fr0, 220, none, 0, fs, rfl, IOwn.nil _ _, h2.out, h3.out, .inl rfl, fun w1 w2 F1 g1 e1 K => ?_⟩
    rcases K with ⟨k1, rfl, k2, k3⟩ | ⟨l', f', a', c', k1, rfl, ko, k2, k3⟩
    · exact ⟨none, 0, rfl, IOwn.nil _ _, k2.out, k3.out⟩
    · exact absurd (k1.symm.trans h1) app_ne
  · refine ⟨f, 0, a, c, l, rfl, ho.out, h2.out, h3.out, .inr (by rw [h1]; simp), fun w1 w2 F1 g1 e1 K => ?_⟩
    rcases K with ⟨k1, rfl, k2, k3⟩ | ⟨l', f', a', c', k1, rfl, ko, k2, k3⟩
    · exact absurd (h1.symm.trans k1) app_ne
    · obtain ⟨rfl, rfl⟩ := app_inj (h1.symm.trans k1)
      exact ⟨a', c', rfl, ko.out, k2.out, k3.out⟩
section
variable {B : Nat} {w w' : World} {bt N : Nat} {p q : Nat → Value} {xp xq : Nat → Option Sk} {S : Nat → Nat → Prop}
/-- A call that leaves a stack within its blocks. -/
theorem Tab.keepP {i g : Nat} {fs : List Fr} {m h' : Int} (h : Tab B w bt p q xp xq N S) (hi : i < 2) (hp : p i = .pointer (some ⟨g, 0, none⟩)) (hs : Stk w' B (S i) g fs m h') (hu : Upd (S i) w w') : Tab B w' bt p q (up1 xp i (some (fs, m, h'))) xq N S := by
  refine ⟨h.bk.upd hu h.offS (fun k hk e => by have := h.ap 4 i k hk e; omega), fun j hj => ?_, fun j hj => (h.qs j hj).upd hu (fun k hk e2 => by have := h.ap (2 + j) i k hk e2; omega), h.ap, fun j k hk => ⟨(h.ly j k hk).1, Nat.lt_of_lt_of_le (h.ly j k hk).2.1 hu.size, (h.ly j k hk).2.2⟩⟩
  by_cases e : j = i
  · subst e
    rw [up1_at]
    exact .inr ⟨g, _, rfl, hp, hs⟩
  · rw [up1_ne _ _ e]
    exact (h.ps j hj).upd hu (fun k hk e2 => e (h.ap j i k hk e2))
theorem Tab.keepQ {i g : Nat} {fs : List Fr} {m h' : Int} (h : Tab B w bt p q xp xq N S) (hi : i < 2) (hp : q i = .pointer (some ⟨g, 0, none⟩)) (hs : RSk w' B (S (2 + i)) g fs m h') (hu : Upd (S (2 + i)) w w') : Tab B w' bt p q xp (up1 xq i (some (fs, m, h'))) N S := by
  refine ⟨h.bk.upd hu h.offS (fun k hk e => by have := h.ap 4 (2 + i) k hk e; omega), fun j hj => (h.ps j hj).upd hu (fun k hk e2 => by have := h.ap j (2 + i) k hk e2; omega), fun j hj => ?_, h.ap, fun j k hk => ⟨(h.ly j k hk).1, Nat.lt_of_lt_of_le (h.ly j k hk).2.1 hu.size, (h.ly j k hk).2.2⟩⟩
  by_cases e : j = i
  · subst e
    rw [up1_at]
    exact .inr ⟨g, _, rfl, hp, hs⟩
  · rw [up1_ne _ _ e]
    exact (h.qs j hj).upd hu (fun k hk e2 => by have := h.ap (2 + j) (2 + i) k hk e2; omega)
end
theorem Stk.memr {w : World} {B g : Nat} {F : Nat → Prop} {fs : List Fr} {m h : Int} (H : Stk w B F g fs m h) {f : Fr} (hf : f ∈ fs) : f.T.length ≤ 1048576 := by
  obtain ⟨v, P, hM, rfl, -, -⟩ := H
  obtain ⟨p, hp, rfl⟩ := List.mem_map.1 hf
  exact (frB_is (hM.rt p hp)).1
end Go.Proofs.Ytcmkdkocponpiaa
