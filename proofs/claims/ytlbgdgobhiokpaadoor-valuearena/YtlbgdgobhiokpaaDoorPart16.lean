import Derived.Test.YtlbgdgobhiokpaaDoorPart15
import Derived.BigRegion
import Derived.Test.YtlbgdgobhiokpaaDoorPart11
import Derived.Laws.OwnMore
import Derived.ArgAppend

/- The document's Add. -/
namespace Go.Proofs.YtlbgdgobhiokpaaDoor
open Go.RowKit
set_option linter.unusedVariables false
set_option linter.unusedSimpArgs false

set_option maxRecDepth 100000 in
set_option maxHeartbeats 8000000 in
theorem addD_err (B b : Nat) (p k kind n : Int) (vl : Value) (R : List Md) (w : World) (hA : Hid (RA B w b vl R)) (hR : R.length ≤ 1000000) (h0 : 0 ≤ n ∧ n ≤ 18446744073709551615) (he : addDE R p k kind n ≠ 0) :
    Calls Tryd.prog 27 #[.pointer (some ⟨b, 0, none⟩), .int .i64 p, .int .i64 k, .int .i64 kind, .int .u64 n] w fun e w' => e = .returned (pairv (0, addDE R p k kind n)) ∧ w = w' := by
  obtain ⟨an, cn, rfl, h1⟩ := hA.out.vl_is
  have c0 := hA.out.c0
  have HE0 : Hid (addDE R p k kind n = if numB kind n = true then refD R p k else 40) := rfl
  go_enter Tryd.func27, Tryd.ntmps27
  go_wp2_with fail
  refine (numberD_any kind n w h0).mono ?_; rintro e w1 ⟨rfl, rfl⟩
  cases hnb : numB kind n
  · have HE : Hid (addDE R p k kind n = 40) := by show _ = _; rw [HE0.out, hnb]; rfl
    go_wp2
    go_ret2
    exact ⟨ret_pair (by rw [HE.out]), rfl⟩
  · have HE1 : Hid (addDE R p k kind n = refD R p k) := by show _ = _; rw [HE0.out, hnb]; rfl
    clear HE0 hnb
    by_cases hl : R.length = 0
    · by_cases hp : p = -1
      · exfalso
        apply he
        rw [HE1.out, refD, if_pos hl, if_pos hp]
      · have hbp : (p == -1) = false := by simpa using hp
        have HE : Hid (addDE R p k kind n = 3) := by show _ = _; rw [HE1.out, refD, if_pos hl, if_neg hp]
        rw [hl] at c0
        clear hl
        go_wp2
        go_ret2
        exact ⟨ret_pair (by rw [HE.out]), rfl⟩
    · have hl' : ((R.length : Int) == 0) = false := by simpa using hl
      by_cases hx : p < 0 ∨ (R.length : Int) ≤ p ∨ k < 0
      · have HE : Hid (addDE R p k kind n = 3) := by show _ = _; rw [HE1.out, refD, if_neg hl, if_pos hx]
        clear HE1 he hl
        by_cases h2 : p < 0
        · go_wp2
          go_ret2
          exact ⟨ret_pair (by rw [HE.out]), rfl⟩
        · by_cases h3 : (R.length : Int) ≤ p
          · go_wp2
            go_ret2
            exact ⟨ret_pair (by rw [HE.out]), rfl⟩
          · have h4 : k < 0 := by omega
            go_wp2
            go_ret2
            exact ⟨ret_pair (by rw [HE.out]), rfl⟩
      · have h2 : ¬ p < 0 := fun h => hx (.inl h)
        have h3 : ¬ (R.length : Int) ≤ p := fun h => hx (.inr (.inl h))
        have h4 : ¬ k < 0 := fun h => hx (.inr (.inr h))
        have HE2 : Hid (addDE R p k kind n = if mostK (R.getD p.toNat md0).1 ≤ k then 40 else if 0 ≤ kidD R p k then 40 else 0) := by show _ = _; rw [HE1.out, refD, if_neg hl, if_neg hx]
        clear HE1 hx
        obtain ⟨o, rfl⟩ := Int.eq_ofNat_of_zero_le (show 0 ≤ p by omega)
        obtain ⟨gn, cn', hv, hn1, hn2, hgn, n0, -, -, -⟩ := hA.out.node (o := o) (by omega)
        have e1 : an = some ⟨gn, 0, none⟩ ∧ cn = cn' := by simpa using hv
        obtain ⟨rfl, rfl⟩ := e1
        have HE3 := HE2.out
        rw [Int.toNat_natCast] at HE3
        have ho' : (o : Int) < R.length := by omega
        clear hv HE2 hl
        generalize (R.getD o md0).1 = pk at *
        by_cases h5 : mostK pk ≤ k
        · rw [if_pos h5] at HE3
          have HE : Hid _ := HE3
          clear HE3
          go_wp2_with fail
          refine (mostD_any pk w).mono ?_; rintro e w2 ⟨rfl, rfl⟩
          go_wp2
          go_ret2
          exact ⟨ret_pair (by rw [HE.out]), rfl⟩
        · rw [if_neg h5] at HE3
          by_cases h6 : 0 ≤ kidD R (o : Int) k
          · rw [if_pos h6] at HE3
            have HE : Hid _ := HE3
            clear HE3
            go_wp2_with fail
            refine (mostD_any pk w).mono ?_; rintro e w2 ⟨rfl, rfl⟩
            go_wp2_with fail
            refine (kidD_any B b (o : Int) k _ R w hA hR).mono ?_; rintro e w2 ⟨rfl, rfl⟩
            go_wp2
            go_ret2
            exact ⟨ret_pair (by rw [HE.out]), rfl⟩
          · rw [if_neg h6] at HE3
            exact absurd HE3 he
set_option maxRecDepth 100000 in
set_option maxHeartbeats 8000000 in
theorem addD_ok (B b : Nat) (p k kind n : Int) (vl : Value) (R : List Md) (w : World) (hA : Hid (RA B w b vl R)) (hR : R.length ≤ 1000000) (h0 : 0 ≤ n ∧ n ≤ 18446744073709551615) (he : addDE R p k kind n = 0) :
    Calls Tryd.prog 27 #[.pointer (some ⟨b, 0, none⟩), .int .i64 p, .int .i64 k, .int .i64 kind, .int .u64 n] w fun e w' => e = .returned (pairv ((R.length : Int), 0)) ∧ ∃ vl', Hid (RA B w' b vl' (R ++ [addM R p k kind n])) ∧ Hid (Upd (FtR b vl) w w') ∧ Hid (∀ q, FtR b vl' q → FtR b vl q ∨ w.heap.size ≤ q) := by
  obtain ⟨an, cn, hvl, h1⟩ := hA.out.vl_is
  have c0 := hA.out.c0
  have hnb : numB kind n = true := by
    cases h : numB kind n with
    | true => rfl
    | false => unfold addDE at he; rw [h] at he; simp at he
  have HE1 : Hid (refD R p k = 0) := by
    unfold addDE at he
    rw [if_pos hnb] at he
    exact he
  obtain ⟨x, hx⟩ : ∃ x, addM R p k kind n = x := ⟨_, rfl⟩
  obtain ⟨g, cap, w5, r5, c5, z5, A5, U5, F5⟩ := hA.out.push x (by omega)
  have R5 := hide_ r5
  rw [hx]
  go_enter Tryd.func27, Tryd.ntmps27
  go_wp2_with fail
  refine (numberD_any kind n w h0).mono ?_; rintro e w1 ⟨rfl, rfl⟩
  rw [hnb]
  clear he r5
  obtain ⟨w6, hw6⟩ : ∃ w6, w6 = w5.setCell ⟨b, 0, none⟩ (.slice (some ⟨g, 0, none⟩) (R.length + 1) cap) := ⟨_, rfl⟩
  rw [← hw6] at A5 U5
  have A6 := hide_ A5
  have U6 := hide_ U5
  have F6 := hide_ F5
  have d0 := A5.c0
  clear A5 U5 F5
  by_cases hl : R.length = 0
  · have hp : p = -1 := by
      have := HE1.out
      unfold refD at this
      rw [if_pos hl] at this
      split at this
      · assumption
      · omega
    subst hp
    obtain rfl : x = (kind, n, -1, 0) := by rw [← hx, addM, if_pos hl]
    subst hvl
    have HL := hide_ hl
    have hl' : ((R.length : Int) == 0) = true := by simpa using hl
    clear hl hx HE1
    go_upto_region 7 with (at_builtin; have _t := R5; refine wpList_append_run rfl (.tmp 28) (.tmp 32) 62 62 rfl rfl rfl R5.out ?_; clear R5)
    rw [← hw6]
    clear hw6 c5 z5 d0
    go_wp2
    go_ret2
    exact ⟨ret_pair (by rw [HL.out]; rfl), _, A6, U6, F6⟩
  · have hl' : ((R.length : Int) == 0) = false := by simpa using hl
    have hr := HE1.out
    unfold refD at hr
    rw [if_neg hl] at hr
    split at hr
    · omega
    · rename_i hno
      split at hr
      · omega
      · rename_i h5
        split at hr
        · omega
        · rename_i h6
          have h2 : ¬ p < 0 := fun h => hno (.inl h)
          have h3 : ¬ (R.length : Int) ≤ p := fun h => hno (.inr (.inl h))
          have h4 : ¬ k < 0 := fun h => hno (.inr (.inr h))
          obtain ⟨o, rfl⟩ := Int.eq_ofNat_of_zero_le (show 0 ≤ p by omega)
          obtain rfl : x = (kind, n, (o : Int), k) := by rw [← hx, addM, if_neg hl]
          obtain ⟨gn, cn', hv, hn1, hn2, hgn, n0, -, -, -⟩ := hA.out.node (o := o) (by omega)
          subst hv
          rw [Int.toNat_natCast] at h5
          have ho' : (o : Int) < R.length := by omega
          clear hl hx hr hno HE1 hvl
          generalize (R.getD o md0).1 = pk at *
          go_wp2_with fail
          refine (mostD_any pk w).mono ?_; rintro e w2 ⟨rfl, rfl⟩
          go_wp2_with fail
          refine (kidD_any B b (o : Int) k _ R w hA hR).mono ?_; rintro e w2 ⟨rfl, rfl⟩
          go_upto_region 13 with (at_builtin; have _t := R5; refine wpList_append_run rfl (.tmp 73) (.tmp 79) 62 62 rfl rfl rfl R5.out ?_; clear R5)
          rw [← hw6]
          clear hw6 c5 z5 n0 c0
          go_wp2
          go_ret2
          exact ⟨rfl, _, A6, U6, F6⟩
end Go.Proofs.YtlbgdgobhiokpaaDoor

/- The document's told, Value. -/
namespace Go.Proofs.YtlbgdgobhiokpaaDoor
open Go.RowKit
set_option linter.unusedVariables false
set_option linter.unusedSimpArgs false

def NatM (R : List Md) : Prop := ∀ p, 0 ≤ (R.getD p md0).2.1 ∧ (R.getD p md0).2.1 ≤ 18446744073709551615
/-- What has been told of a node's kids, ahead of number k. -/
def Tol (T : Nat → Option (List Nd)) (R : List Md) (p c k : Nat) (la : List Nd) : Prop := toldK T R p c 0 = (toldK T R p (c - k) k).map (la ++ ·)
theorem Tol.begin (T : Nat → Option (List Nd)) (R : List Md) (p c : Nat) : Tol T R p c 0 [] := by
  unfold Tol
  simp
theorem Tol.step {T : Nat → Option (List Nd)} {R : List Md} {p c k : Nat} {la l : List Nd} (h : Tol T R p c k la) (hk : k < c) (h0 : 0 ≤ kidD R p k) (hT : T (kidD R p k).toNat = some l) : Tol T R p c (k + 1) (la ++ l) := by
  unfold Tol at h ⊢
  rw [h, show c - k = (c - (k + 1)) + 1 by omega, toldK, if_pos h0, hT]
  simp only [Option.map_map]
  congr 1
  funext x
  simp
theorem Tol.gone {T : Nat → Option (List Nd)} {R : List Md} {p c k : Nat} {la : List Nd} (h : Tol T R p c k la) (hk : k < c) (h0 : ¬ 0 ≤ kidD R p k) : toldK T R p c 0 = none := by
  unfold Tol at h
  rw [h, show c - k = (c - (k + 1)) + 1 by omega, toldK, if_neg h0]
  rfl
theorem Tol.none {T : Nat → Option (List Nd)} {R : List Md} {p c k : Nat} {la : List Nd} (h : Tol T R p c k la) (hk : k < c) (h0 : 0 ≤ kidD R p k) (hT : T (kidD R p k).toNat = none) : toldK T R p c 0 = none := by
  unfold Tol at h
  rw [h, show c - k = (c - (k + 1)) + 1 by omega, toldK, if_pos h0, hT]
  rfl
theorem Tol.all {T : Nat → Option (List Nd)} {R : List Md} {p c : Nat} {la : List Nd} (h : Tol T R p c c la) : toldK T R p c 0 = some la := by
  unfold Tol at h
  rw [h, Nat.sub_self, toldK]
  simp
def ToldTo (w0 : World) (R : List Md) (f p : Nat) (D : List Nd) (e : Ending) (w' : World) : Prop :=
  Hid (Below w0.heap.size w0 w') ∧ ((∃ l v', e = .returned (.tuple #[v', .bool true]) ∧ Hid (toldD R f p = some l) ∧ Hid (w'.ownsRow w0.heap.size 37 3 v' (D ++ l).length (cellsN (D ++ l)))) ∨ (∃ v', e = .returned (.tuple #[v', .bool false]) ∧ Hid (toldD R f p = none)))
set_option maxRecDepth 100000 in
set_option maxHeartbeats 8000000 in
theorem told_any (B b : Nat) (vl : Value) (R : List Md) (w0 : World) (hA : Hid (RA B w0 b vl R)) (hR : R.length ≤ 1000) (hn : Hid (NatM R)) (hok : Hid (Rok R)) :
    ∀ (f p : Nat) (v : Value) (D : List Nd) (w : World), p < R.length → R.length ≤ p + f → Hid (Below w0.heap.size w0 w) → Hid (w.ownsRow w0.heap.size 37 3 v D.length (cellsN D)) → D.length + (ids R f p).length ≤ 100000 →
    Calls Tryd.prog 52 #[.pointer (some ⟨b, 0, none⟩), v, .int .i64 (p : Int)] w fun e w' => ToldTo w0 R f p D e w' := by
  intro f
  induction f with
  | zero => intro p v D w hp hf; omega
  | succ f ih =>
    intro p v D w hp hf HB HV hD
    have IH := hide_ ih
    clear ih
    obtain ⟨an, cn, rfl, h1⟩ := hA.out.vl_is
    have HAw : Hid (RA B w b (.slice an R.length cn) R) := hA.out.later HB.out
    have c0 := HAw.out.c0
    obtain ⟨gn, cn', hv, hn1, hn2, hgn, n0, n1, -, -⟩ := HAw.out.node hp
    have e1 : an = some ⟨gn, 0, none⟩ ∧ cn = cn' := by simpa using hv
    obtain ⟨rfl, rfl⟩ := e1
    clear hv
    have hpi : (p : Int) < R.length := by omega
    have hcl := cntD_le R (p : Int)
    rw [ids_step] at hD
    go_enter Tryd.func52, Tryd.ntmps52
    go_wp2_with fail
    go_loopw [8, 9] (fun xc xi wr => ∃ (c i : Nat), xi = .int .i64 i ∧ xc = .int .i64 c ∧ i ≤ R.length + 1 ∧ 1 ≤ i ∧ c ≤ i ∧ Hid (c + cntG R (p : Int) (R.length - i) i = cntD R (p : Int)) ∧ w = wr) (fun _ xi _ => R.length + 1 - (intOf xi).toNat)
    case atStart => exact ⟨0, 1, rfl, rfl, by omega, Nat.le_refl _, by omega, by show _ = _; rw [Nat.zero_add]; rfl, rfl⟩
    case round =>
      obtain ⟨c, i, rfl, rfl, hi, hi1, hci, HC, rfl⟩ := hrel
      by_cases hlt : i < R.length
      · have hlt' : (i : Int) < R.length := by omega
        obtain ⟨gn', cn', hv, -, -, -, -, -, m2, -⟩ := HAw.out.node hlt
        have e1 : gn = gn' ∧ cn = cn' := by simpa using hv
        obtain ⟨rfl, rfl⟩ := e1
        have HC1 := HC.out
        rw [show R.length - i = (R.length - (i + 1)) + 1 by omega, cntG] at HC1
        clear hv HC
        by_cases hq : mpar R i = (p : Int)
        · rw [hq] at m2
          rw [if_pos hq] at HC1
          have HC2 : Hid (c + 1 + cntG R (p : Int) (R.length - (i + 1)) (i + 1) = cntD R (p : Int)) := by show _ = _; omega
          clear HC1 hq
          go_wp2
          go_roundw
          case rel => exact ⟨c + 1, i + 1, by go_num, by go_num, by omega, by omega, by omega, HC2, trivial⟩
          case measure => simp [intOf]; omega
        · rw [if_neg hq] at HC1
          have hbq : (mpar R i == (p : Int)) = false := by simpa using hq
          have HC2 : Hid (c + cntG R (p : Int) (R.length - (i + 1)) (i + 1) = cntD R (p : Int)) := by show _ = _; omega
          clear HC1 hq
          generalize mpar R i = mp at *
          go_wp2
          go_roundw
          case rel => exact ⟨c, i + 1, by go_num, rfl, by omega, by omega, by omega, HC2, trivial⟩
          case measure => simp [intOf]; omega
      · have hnl : ¬ ((i : Int) < R.length) := by omega
        have hce : c = cntD R (p : Int) := by
          have := HC.out
          rw [show R.length - i = 0 by omega, cntG] at this
          omega
        have HCe := hide_ hce
        rw [← hce] at hcl hD
        clear HC hce
        obtain ⟨⟨xk, xn⟩, hx⟩ : ∃ x : Int × Int, ((R.getD p md0).1, (R.getD p md0).2.1) = x := ⟨_, rfl⟩
        have hxk := (Prod.mk.inj hx).1
        have hxn := (Prod.mk.inj hx).2
        have hnn := hn.out p
        rw [hxk] at n0
        rw [hxn] at n1 hnn
        have HND : Hid (ndD R p = (xk, xn, (c : Int))) := by show _ = _; rw [ndD, hxk, hxn, HCe.out]
        clear hx hxk hxn
        have hbl := HAw.out.blk.lt
        have c0a : ∀ ob, (w.alloc ob).cell? ⟨b, 0, none⟩ = some (.slice (some ⟨gn, 0, none⟩) R.length cn) := fun ob => (cell_alloc w ob b 0 hbl).trans c0
        have n0a : ∀ ob, (w.alloc ob).cell? ⟨gn, p * 4, none⟩ = some (.int .i64 xk) := fun ob => (cell_alloc w ob gn _ hgn).trans n0
        have n1a : ∀ ob, (w.alloc ob).cell? ⟨gn, p * 4 + 1, none⟩ = some (.int .u64 xn) := fun ob => (cell_alloc w ob gn _ hgn).trans n1
        go_wp2_with fail
        go_region
        obtain ⟨wA, hwA⟩ : ∃ wA, wA = (w.alloc (.cells #[.int .i64 xk, .int .u64 xn, .int .i64 (c : Int)] 37)).drew := ⟨_, rfl⟩
        have K := (Blk.newA w #[.int .i64 xk, .int .u64 xn, .int .i64 (c : Int)] 37).drew
        have HBA0 : Below w.heap.size w wA := by rw [hwA]; exact ((Below.refl _ _).alloc (Nat.le_refl _) _).drew
        rw [← hwA] at K ⊢
        have HBA : Hid (Below w0.heap.size w0 wA) := HB.out.trans (HBA0.mono HB.out.size)
        have HVA : Hid (wA.ownsRow w0.heap.size 37 3 v D.length (cellsN D)) := ownS_upd HV.out (Upd.of_below (S := fun _ => False) HBA0) (fun _ _ h => h)
        have a0 : wA.cell? ⟨w.heap.size, 0, none⟩ = some (.int .i64 xk) := K.cell 0
        have a1 : wA.cell? ⟨w.heap.size, 1, none⟩ = some (.int .u64 xn) := K.cell 1
        have a2 : wA.cell? ⟨w.heap.size, 2, none⟩ = some (.int .i64 (c : Int)) := K.cell 2
        obtain ⟨g9, cap9, w9, r9, ow9, u9, -⟩ := run_pushS (P := Tryd.prog) (t := 22) (e := 37) (z := .agg #[.int .i64 0, .int .u64 0, .int .i64 0]) (bytes := 24) Tryd.underlying22 (by kernel_rfl) rfl (by decide) wA 22 HVA.out [.int .i64 xk, .int .u64 xn, .int .i64 (c : Int)] rfl (by intro u hu; simp at hu; rcases hu with rfl | rfl | rfl <;> rfl) (by unfold maxLen; omega) (by omega) HBA.out.size
        have R9 := hide_ r9
        have HV9 : Hid (w9.ownsRow w0.heap.size 37 3 (.slice (some ⟨g9, 0, none⟩) (D.length + 1) cap9) (D ++ [(xk, xn, (c : Int))]).length (cellsN (D ++ [(xk, xn, (c : Int))]))) := by
          rw [List.length_append, cellsN_append]
          exact ow9
        have HB9 : Hid (Below w0.heap.size w0 w9) := HBA.out.trans (u9.below _ HBA.out.size fun k hk => (HVA.out.lt k hk).1)
        have K9 : Blk w9 w.heap.size 37 [.int .i64 xk, .int .u64 xn, .int .i64 (c : Int)] := K.upd u9 (fun e => by
          have h2 := (HV.out.lt _ e).2
          omega)
        have d0 : w9.cell? ⟨w.heap.size, 0, none⟩ = some (.int .i64 xk) := K9.cell 0
        have d1 : w9.cell? ⟨w.heap.size, 1, none⟩ = some (.int .u64 xn) := K9.cell 1
        have d2 : w9.cell? ⟨w.heap.size, 2, none⟩ = some (.int .i64 (c : Int)) := K9.cell 2
        clear hwA K HBA0 HBA HVA HV HB r9 ow9 u9 K9 c0a n0a n1a c0 n0 n1 HAw hgn hbl hnl hi hi1 hci
        go_wp2_with (first | (at_builtin; have _t := R9; refine wpList_append_run rfl (.tmp 53) (.tmp 55) 22 22 rfl rfl rfl R9.out ?_; clear R9) | (go_at_call 65; fail))
        refine (rightD_any (xk, xn, (c : Int)) w9 hnn).mono ?_; rintro e w10 ⟨rfl, hB10⟩
        have HB10 : Hid (Below w0.heap.size w0 w10) := HB9.out.trans (hB10.mono HB9.out.size)
        have HV10 := hide_ (ownS_upd HV9.out (Upd.of_below (S := fun _ => False) hB10) (fun _ _ h => h))
        clear HB9 HV9 hB10 d0 d1 d2 a0 a1 a2
        have HT : Hid (toldD R (f + 1) p = if right (xk, xn, (c : Int)) = true then (toldK (toldD R f) R p c 0).map ((xk, xn, (c : Int)) :: ·) else none) := by show _ = _; rw [toldD, HND.out, ← HCe.out]
        have hcb : c ≤ 1000 := by omega
        have hD1 : (D ++ [(xk, xn, (c : Int))]).length = D.length + 1 := by simp
        cases hrt : right (xk, xn, (c : Int)) with
        | false =>
          have HN : Hid (toldD R (f + 1) p = none) := by show _ = _; rw [HT.out, hrt]; rfl
          go_wp2_with fail
          go_loopw [1, 11, 12] (fun x1 xo xk wr => ∃ (vv : Value), vv = x1 ∧ xo = .bool false ∧ xk = .int .i64 0 ∧ Hid (Below w0.heap.size w0 wr)) (fun _ _ _ _ => 0)
          case atStart => exact ⟨_, rfl, rfl, rfl, HB10⟩
          case round =>
            obtain ⟨vv, rfl, rfl, rfl, HB⟩ := hrel
            by_cases hc0 : (0 : Int) < (c : Int)
            all_goals
              go_wp2
              go_ret2
              exact ⟨HB, .inr ⟨vv, rfl, HN⟩⟩
        | true =>
          have HT2 : Hid (toldD R (f + 1) p = (toldK (toldD R f) R p c 0).map ((xk, xn, (c : Int)) :: ·)) := by show _ = _; rw [HT.out, if_pos hrt]
          clear HT hrt
          go_wp2_with fail
          go_loopw [1, 11, 12] (fun x1 xo xq wr => ∃ (vv : Value) (okb : Bool) (k : Nat) (la : List Nd), vv = x1 ∧ xo = .bool okb ∧ xq = .int .i64 k ∧ k ≤ c ∧ Hid (Below w0.heap.size w0 wr) ∧ Hid (okb = false → toldD R (f + 1) p = none) ∧ Hid (okb = true → Tol (toldD R f) R p c k la ∧ wr.ownsRow w0.heap.size 37 3 vv (D ++ (xk, xn, (c : Int)) :: la).length (cellsN (D ++ (xk, xn, (c : Int)) :: la)) ∧ (D ++ (xk, xn, (c : Int)) :: la).length + idsK R f p (c - k) k ≤ 100000)) (fun _ _ xq _ => c - (intOf xq).toNat)
          case atStart => exact ⟨_, true, 0, [], rfl, rfl, rfl, Nat.zero_le _, HB10, (fun h => by cases h), fun _ => ⟨Tol.begin _ _ _ _, HV10.out, by rw [hD1, Nat.sub_zero]; omega⟩⟩
          case round =>
            clear HB10 HV10 hD1 hD
            obtain ⟨vv, okb, k, la, rfl, rfl, rfl, hk, HB, HF, HG⟩ := hrel
            cases okb with
            | false =>
              have HN := hide_ (HF.out rfl)
              by_cases hkc : (k : Int) < (c : Int)
              all_goals
                go_wp2
                go_ret2
                exact ⟨HB, .inr ⟨vv, rfl, HN⟩⟩
            | true =>
              obtain ⟨HTo, HV, hlen⟩ := HG.out rfl
              have HTo' := hide_ HTo
              have HV' := hide_ HV
              clear HTo HV HF HG
              by_cases hkc : k < c
              · have hkc' : (k : Int) < (c : Int) := by omega
                have HAr : Hid (RA B wr b (.slice (some ⟨gn, 0, none⟩) R.length cn) R) := hA.out.later HB.out
                go_wp2_with fail
                refine (kidD_any B b (p : Int) (k : Int) _ R wr HAr (by omega)).mono ?_; rintro e w11 ⟨rfl, rfl⟩
                by_cases hk0 : 0 ≤ kidD R (p : Int) (k : Int)
                · obtain ⟨j, hj⟩ := Int.eq_ofNat_of_zero_le hk0
                  obtain ⟨b1, b2, b3, b4, b5⟩ := kid_nat hok.out hj
                  have HJ := hide_ hj
                  have hlen2 := hlen
                  rw [show c - k = (c - (k + 1)) + 1 by omega, idsK, if_pos hk0, hj, Int.toNat_natCast] at hlen2
                  rw [hj]
                  have hj0 : ¬ ((j : Int) < 0) := by omega
                  have hcon := hide_ (IH.out j vv _ wr b2 (by omega) HB HV' (by omega))
                  clear hk0 hj hlen
                  go_wp2_with fail
                  refine hcon.out.mono ?_; rintro e w12 ⟨HB12, ⟨l, v12, rfl, HL, HV12⟩ | ⟨v12, rfl, HL⟩⟩
                  ·
                    have HTn := hide_ (HTo'.out.step hkc (by rw [HJ.out]; omega) (by rw [HJ.out, Int.toNat_natCast]; exact HL.out))
                    have hll := toldD_len HL.out
                    clear hcon HV'
                    go_wp2
                    go_roundw
                    case rel => exact ⟨v12, true, k + 1, la ++ l, rfl, rfl, by go_num, by omega, HB12, (fun h => by cases h), fun _ => ⟨HTn.out, by have := HV12.out; rw [List.append_assoc, List.cons_append] at this; exact this, by rw [List.length_append, List.length_cons, List.length_append] at *; omega⟩⟩
                    case measure => simp [intOf]; omega
                  ·
                    have HN : Hid (toldD R (f + 1) p = none) := by show _ = _; rw [HT2.out, HTo'.out.none hkc (by rw [HJ.out]; omega) (by rw [HJ.out, Int.toNat_natCast]; exact HL.out)]; rfl
                    clear hcon HV'
                    go_wp2
                    go_roundw
                    case rel => exact ⟨v12, false, k + 1, [], rfl, rfl, by go_num, by omega, HB12, fun _ => HN.out, (fun h => by cases h)⟩
                    case measure => simp [intOf]; omega
                ·
                  have HN : Hid (toldD R (f + 1) p = none) := by show _ = _; rw [HT2.out, HTo'.out.gone hkc hk0]; rfl
                  have hk1 : kidD R (p : Int) (k : Int) < 0 := by omega
                  clear hk0
                  go_wp2
                  go_ret2
                  exact ⟨HB, .inr ⟨_, rfl, HN⟩⟩
              ·
                obtain rfl : k = c := by omega
                have hnl : ¬ ((k : Int) < (k : Int)) := by omega
                have HN : Hid (toldD R (f + 1) p = some ((xk, xn, (k : Int)) :: la)) := by show _ = _; rw [HT2.out, HTo'.out.all]; rfl
                go_wp2
                go_ret2
                exact ⟨HB, .inl ⟨_, vv, rfl, HN, HV'⟩⟩
end Go.Proofs.YtlbgdgobhiokpaaDoor

/- The document's Value. -/
namespace Go.Proofs.YtlbgdgobhiokpaaDoor
open Go.RowKit
set_option linter.unusedVariables false
set_option linter.unusedSimpArgs false

/-- What Value of the document's arena gives. -/
def valD (R : List Md) : Option (List Nd) := if R.length = 0 then none else toldD R R.length 0
def ValTo (w : World) (o : Option (List Nd)) (e : Ending) (w' : World) : Prop :=
  Hid (Below w.heap.size w w') ∧ ((∃ l v', e = .returned (.tuple #[v', .int .i64 0]) ∧ Hid (o = some l) ∧ Hid (w'.ownsRow w.heap.size 37 3 v' l.length (cellsN l))) ∨ (e = .returned (.tuple #[.slice none 0 0, .int .i64 40]) ∧ Hid (o = none)))
set_option maxRecDepth 100000 in
set_option maxHeartbeats 8000000 in
theorem valueD_any (B b : Nat) (vl : Value) (R : List Md) (w : World) (hA : Hid (RA B w b vl R)) (hR : R.length ≤ 1000) (hn : Hid (NatM R)) (hok : Hid (Rok R)) :
    Calls Tryd.prog 28 #[.pointer (some ⟨b, 0, none⟩)] w fun e w' => ValTo w (valD R) e w' := by
  obtain ⟨an, cn, rfl, h1⟩ := hA.out.vl_is
  have c0 := hA.out.c0
  go_enter Tryd.func28, Tryd.ntmps28
  by_cases hl : R.length = 0
  · have hl' : ((R.length : Int) == 0) = true := by simpa using hl
    have HN : Hid (valD R = none) := by show _ = _; rw [valD, if_pos hl]
    clear hl
    go_wp2
    go_ret2
    exact ⟨Below.refl _ _, .inr ⟨rfl, HN⟩⟩
  · have hl' : ((R.length : Int) == 0) = false := by simpa using hl
    have HN : Hid (valD R = toldD R R.length 0) := by show _ = _; rw [valD, if_neg hl]
    have hlen := ids_len hok.out R.length 0 (by omega)
    have hcon := hide_ (told_any B b _ R w hA hR hn hok R.length 0 (.slice none 0 0) [] w (by omega) (by omega) (Below.refl _ _) (World.ownsRow_nil _ _ _ _) (by simp; omega))
    clear hl hlen
    go_wp2_with fail
    refine hcon.out.mono ?_; rintro e w12 ⟨HB12, ⟨l, v12, rfl, HL, HV12⟩ | ⟨v12, rfl, HL⟩⟩
    · have HS : Hid (valD R = some l) := HN.out.trans HL.out
      rw [List.nil_append] at HV12
      clear hcon HN HL
      go_wp2
      go_ret2
      exact ⟨HB12, .inl ⟨l, v12, rfl, HS, HV12⟩⟩
    · have HS : Hid (valD R = none) := HN.out.trans HL.out
      clear hcon HN HL
      go_wp2
      go_ret2
      exact ⟨HB12, .inr ⟨rfl, HS⟩⟩
end Go.Proofs.YtlbgdgobhiokpaaDoor

/- A half of the book: lists that were handed out, each with a mark of its own, and longer by one. -/
namespace Go.Proofs.YtlbgdgobhiokpaaDoor
open Go.RowKit
set_option linter.unusedVariables false

/-- append(v, x), x a struct written out: what v itself holds stays. -/
theorem run_pushK {P : Program} {t B e c n : Nat} {z v : Value} {bytes : Nat} {xs : List Value} (ht : P.underlying t = some (.slice e)) (hinfo : (P.info? e).map (fun i => (i.zero, i.size, i.bytes)) = some (some z, c, bytes)) (hzs : z.cells.size = c) (hc : 0 < c)
    (w : World) (ty : Nat) (hown : w.ownsRow B e c v n xs) (news : List Value) (hl : news.length = c) (hx : ∀ u ∈ news, u.oneCell' = true) (h63 : n + 1 ≤ maxLen) (hb : (n + 1) * bytes ≤ 140737488355328) (hbase : B ≤ w.heap.size) :
    ∃ g cap w', (Builtin.append_ #[t, t] ty #[v, .slice (some ⟨w.heap.size, 0, none⟩) 1 1]).run P (w.alloc (.cells news.toArray e)) = .ok (.slice (some ⟨g, 0, none⟩) (n + 1) cap) w' ∧
      w'.ownsRow B e c (.slice (some ⟨g, 0, none⟩) (n + 1) cap) (n + 1) (xs ++ news) ∧ w'.ownsRow B e c v n xs ∧ Upd (fun k => v.ownBlock = some k) w w' ∧ (v.ownBlock = some g ∨ w.heap.size ≤ g) := by
  rcases hown.2 with ⟨hv, h0⟩ | ⟨g, cap, cur, hv, hbg, hg, hnc, hcm, hcs, htake⟩
  · obtain ⟨g, cap, w', h1, h2, h3, h4⟩ := run_pushS ht hinfo hzs hc w ty hown news hl hx h63 hb hbase
    refine ⟨g, cap, w', h1, h2, ?_, h3, h4⟩
    refine ⟨hown.1, .inl ⟨hv, h0⟩⟩
  · subst hv
    obtain ⟨i0, hi, hz0, hz1, hz2⟩ := info_parts hinfo
    have hsz : (w.alloc (.cells news.toArray e)).heap.size = w.heap.size + 1 := by simp
    have hnew : ∀ j u, news[j]? = some u → (w.alloc (.cells news.toArray e)).cell? ((⟨w.heap.size, 0, none⟩ : Addr).add j) = some u := fun j u hj => by rw [add_none, Nat.zero_add, (Blk.new w news e).cell]; exact hj
    by_cases hr : n + 1 ≤ cap
    · obtain ⟨w', h1, h2, h3⟩ := run_append_fits (P := P) (w.alloc (.cells news.toArray e)) B t ty e i0 c ht hi hz1 g n cap xs (hown.alloc _) ⟨w.heap.size, 0, none⟩ 1 1 news (by omega) hnew hx hr
      refine ⟨g, cap, w', h1, h2, ?_, ((Upd.refl _ w).alloc _).grown h3 (fun k hk => .inl (by rw [← hk]; rfl)), .inl rfl⟩
      obtain ⟨g', cap', ys, e5, q1, q2, q3, q4, q5, q6⟩ := ownS_blk h2 (by omega)
      have e6 : g = g' ∧ cap = cap' := by simpa using e5
      obtain ⟨rfl, rfl⟩ := e6
      have h9 := ownS_of_blk (n := n) (c := c) q6 q1 q4 hnc q3
      have : ys.take (n * c) = xs := by
        have e9 : ys.take (n * c) = (ys.take ((n + 1) * c)).take (n * c) := by rw [List.take_take, Nat.min_eq_left (Nat.mul_le_mul_right _ (by omega))]
        rw [e9, q5, List.take_append_of_le_length (by rw [hown.1]; exact Nat.le_refl _), List.take_of_length_le (by rw [hown.1]; exact Nat.le_refl _)]
      rw [this] at h9
      exact h9
    · have hbk : Blk w g e cur.toList := by unfold Blk; rw [Array.toArray_toList]; exact hg
      have hold : ∀ j u, xs[j]? = some u → (w.alloc (.cells news.toArray e)).cell? ((⟨g, 0, none⟩ : Addr).add j) = some u := fun j u hj => by
        rw [add_none, Nat.zero_add, (hbk.alloc _).cell]
        rw [← htake, List.getElem?_take] at hj
        split at hj
        · exact hj
        · cases hj
      obtain ⟨v', w', h1, h2, h3⟩ := run_append_arg_grows (P := P) (w.alloc (.cells news.toArray e)) t ty e i0 z c bytes ht hi hz0 hz1 hz2 hzs hc ⟨g, 0, none⟩ n cap xs hown.1 hold ⟨w.heap.size, 0, none⟩ 1 1 news (by omega) hnew (by omega) h63 hb
      obtain ⟨g', cap', ys, rfl, q1, q2, q3, q4, q5, q6⟩ := ownS_blk h2 (by omega)
      have hu0 : Upd (fun _ => False) w w' := ((Upd.refl _ w).alloc _).grown h3 (fun k hk => by cases hk)
      refine ⟨g', cap', w', h1, own_mono h2 (by omega), ownS_upd hown hu0 (fun _ _ h => h), hu0.mono (fun _ _ h => h.elim), .inr (by omega)⟩
/-- e, c: the lists' elements, their cells; te: the lists' own type. -/
structure Half (te e c : Nat) (mk : Nat → Nat → List Value) (B : Nat) (w : World) (vL vM : Value) (N : Nat) (F G : Nat → Value) (s : Nat → Nat) : Prop where
  rL : RowE te B w vL N F
  rM : RowE te B w vM N G
  l : ∀ j, j < N → w.ownsRow B e c (F j) (s j) (mk (s j) j)
  m : ∀ j, j < N → w.ownsRow B e c (G j) (s j + 1) (mk (s j + 1) j)
  ne : ∀ q, vL.ownBlock = some q → vM.ownBlock ≠ some q
  small : ∀ j, j < N → s j ≤ 1000000
def FK (vL vM : Value) (N : Nat) (F G : Nat → Value) (q : Nat) : Prop := vL.ownBlock = some q ∨ vM.ownBlock = some q ∨ ∃ j, j < N ∧ ((F j).ownBlock = some q ∨ (G j).ownBlock = some q)
section
variable {te e c B : Nat} {mk : Nat → Nat → List Value} {w w' : World} {vL vM : Value} {N : Nat} {F G : Nat → Value} {s : Nat → Nat}
theorem Half.upd {S : Nat → Prop} (b : Half te e c mk B w vL vM N F G s) (hu : Upd S w w') (hs : ∀ q, FK vL vM N F G q → ¬ S q) : Half te e c mk B w' vL vM N F G s :=
  ⟨b.rL.upd hu (fun q hq => hs q (.inl hq)), b.rM.upd hu (fun q hq => hs q (.inr (.inl hq))), fun j hj => ownS_upd (b.l j hj) hu (fun q hq => hs q (.inr (.inr ⟨j, hj, .inl hq⟩))), fun j hj => ownS_upd (b.m j hj) hu (fun q hq => hs q (.inr (.inr ⟨j, hj, .inr hq⟩))), b.ne, b.small⟩
theorem Half.later (b : Half te e c mk B w vL vM N F G s) (hB : Below w.heap.size w w') : Half te e c mk B w' vL vM N F G s := b.upd (Upd.of_below (S := fun _ => False) hB) (fun _ _ h => h)
theorem Half.lt (b : Half te e c mk B w vL vM N F G s) (q : Nat) (hq : FK vL vM N F G q) : B ≤ q ∧ q < w.heap.size := by
  rcases hq with hq | hq | ⟨j, hj, hq | hq⟩
  · exact b.rL.lt q hq
  · exact b.rM.lt q hq
  · exact (b.l j hj).lt q hq
  · exact (b.m j hj).lt q hq
theorem Half.none (te e c : Nat) (mk : Nat → Nat → List Value) (B : Nat) (w : World) : Half te e c mk B w (.slice none 0 0) (.slice none 0 0) 0 (fun _ => .slice none 0 0) (fun _ => .slice none 0 0) (fun _ => 0) :=
  ⟨RowE.nil _ _ _ _, RowE.nil _ _ _ _, fun j hj => by omega, fun j hj => by omega, (fun q hq => by cases hq), fun j hj => by omega⟩
/-- Its blocks are of two types. -/
theorem Half.type (b : Half te e c mk B w vL vM N F G s) {q : Nat} (hq : FK vL vM N F G q) : ∃ ys, Blk w q te ys ∨ Blk w q e ys := by
  rcases hq with hq | hq | ⟨j, hj, hq | hq⟩
  · obtain ⟨ys, h⟩ := ownS_type b.rL hq; exact ⟨ys, .inl h⟩
  · obtain ⟨ys, h⟩ := ownS_type b.rM hq; exact ⟨ys, .inl h⟩
  · obtain ⟨ys, h⟩ := ownS_type (b.l j hj) hq; exact ⟨ys, .inr h⟩
  · obtain ⟨ys, h⟩ := ownS_type (b.m j hj) hq; exact ⟨ys, .inr h⟩
theorem Half.off (b : Half te e c mk B w vL vM N F G s) {q : Nat} {t : TypeId} {xs : List Value} (hq : Blk w q t xs) (h1 : t ≠ te) (h2 : t ≠ e) : ¬ FK vL vM N F G q := fun h => by
  obtain ⟨ys, h3 | h3⟩ := b.type h
  · exact h1 (blk_type hq h3)
  · exact h2 (blk_type hq h3)
theorem Half.is (b : Half te e c mk B w vL vM N F G s) : (∃ a k, vL = .slice a N k) ∧ ∃ a k, vM = .slice a N k := by
  constructor
  · rcases b.rL.2 with ⟨rfl, h0⟩ | ⟨g, cap, cur, rfl, _⟩
    · exact ⟨Option.none, 0, by rw [h0]⟩
    · exact ⟨_, _, rfl⟩
  · rcases b.rM.2 with ⟨rfl, h0⟩ | ⟨g, cap, cur, rfl, _⟩
    · exact ⟨Option.none, 0, by rw [h0]⟩
    · exact ⟨_, _, rfl⟩
end
/-- One list more: the first row. -/
theorem half_one {te e c B t2 : Nat} {mk : Nat → Nat → List Value} {w : World} {vL vM : Value} {N : Nat} {F G : Nat → Value} {s : Nat → Nat} (b : Half te e c mk B w vL vM N F G s) (hne : te ≠ e) (ht2 : Tryd.prog.underlying t2 = some (.slice te)) (hi2 : (Tryd.prog.info? te).map (fun i => (i.zero, i.size, i.bytes)) = some (some (.slice none 0 0), 1, 24))
    (hB : B ≤ w.heap.size) (hN : N ≤ 10000) (v : Value) (k : Nat) (hv : w.ownsRow B e c v k (mk k N)) (hone : v.oneCell' = true) :
    ∃ g1 c1 w1, (Builtin.append_ #[t2, t2] t2 #[vL, .slice (some ⟨w.heap.size, 0, none⟩) 1 1]).run Tryd.prog (w.alloc (.cells #[v] te)) = .ok (.slice (some ⟨g1, 0, none⟩) (N + 1) c1) w1 ∧
      Upd (fun q => vL.ownBlock = some q) w w1 ∧ (vL.ownBlock = some g1 ∨ w.heap.size ≤ g1) ∧ RowE te B w1 (.slice (some ⟨g1, 0, none⟩) (N + 1) c1) (N + 1) (ext F N v) ∧ RowE te B w1 vM N G ∧ (∀ j, j < N → w1.ownsRow B e c (F j) (s j) (mk (s j) j)) ∧ (∀ j, j < N → w1.ownsRow B e c (G j) (s j + 1) (mk (s j + 1) j)) ∧ w1.ownsRow B e c v k (mk k N) ∧ vM.ownBlock ≠ some g1 := by
  have f1 : RowE te B w vL N (ext F N v) := b.rL.congr (fun j hj => (ext_ne _ _ _ _ (by omega)).symm)
  obtain ⟨g1, c1, w1, r1, p1, u1, l1⟩ := f1.push ht2 (z := .slice none 0 0) (bytes := 24) hi2 rfl (by rw [ext_at]; exact hone) (by unfold maxLen; omega) (by omega) hB t2
  rw [ext_at] at r1
  have far : ∀ {x : Value} {n : Nat} {xs : List Value}, w.ownsRow B e c x n xs → w1.ownsRow B e c x n xs := fun h => ownS_upd h u1 fun q hq e1 => by
    obtain ⟨ys, h1⟩ := ownS_type h hq
    obtain ⟨zs, h2⟩ := ownS_type f1 e1
    exact hne (blk_type h2 h1)
  refine ⟨g1, c1, w1, r1, u1, l1, p1, b.rM.upd u1 (fun q hq e1 => b.ne q e1 hq), fun j hj => far (b.l j hj), fun j hj => far (b.m j hj), far hv, fun e1 => ?_⟩
  rcases l1 with h | h
  · exact b.ne g1 h e1
  · have := (b.rM.lt g1 e1).2; omega
/-- The list, longer by one; the second row. -/
theorem half_two {te e c B t2 g1 c1 bytes : Nat} {z : Value} {mk : Nat → Nat → List Value} {w : World} {vM : Value} {N : Nat} {F G : Nat → Value} {s : Nat → Nat} (hne : te ≠ e) (ht2 : Tryd.prog.underlying t2 = some (.slice te)) (hi2 : (Tryd.prog.info? te).map (fun i => (i.zero, i.size, i.bytes)) = some (some (.slice none 0 0), 1, 24))
    (ht : Tryd.prog.underlying te = some (.slice e)) (hi : (Tryd.prog.info? e).map (fun i => (i.zero, i.size, i.bytes)) = some (some z, c, bytes)) (hzs : z.cells.size = c) (hc : 0 < c) (hby : bytes ≤ 100) (hB : B ≤ w.heap.size) (hN : N ≤ 10000) (v : Value) (k : Nat) (hk : k ≤ 1000000)
    (rL : RowE te B w (.slice (some ⟨g1, 0, none⟩) (N + 1) c1) (N + 1) (ext F N v)) (rM : RowE te B w vM N G) (hl : ∀ j, j < N → w.ownsRow B e c (F j) (s j) (mk (s j) j)) (hm : ∀ j, j < N → w.ownsRow B e c (G j) (s j + 1) (mk (s j + 1) j)) (hv : w.ownsRow B e c v k (mk k N)) (hvn : vM.ownBlock ≠ some g1) (hsm : ∀ j, j < N → s j ≤ 1000000)
    (hap : ∀ j, j < N → ∀ q, v.ownBlock = some q → (F j).ownBlock ≠ some q ∧ (G j).ownBlock ≠ some q) (x : List Value) (hx : x.length = c) (hx1 : ∀ u ∈ x, u.oneCell' = true) (hmk : mk k N ++ x = mk (k + 1) N) :
    ∃ g3 c3 w3 g4 c4 w4, (Builtin.append_ #[te, te] te #[v, .slice (some ⟨w.heap.size, 0, none⟩) 1 1]).run Tryd.prog (w.alloc (.cells x.toArray e)) = .ok (.slice (some ⟨g3, 0, none⟩) (k + 1) c3) w3 ∧ Upd (fun q => v.ownBlock = some q) w w3 ∧
      (Builtin.append_ #[t2, t2] t2 #[vM, .slice (some ⟨w3.heap.size, 0, none⟩) 1 1]).run Tryd.prog (w3.alloc (.cells #[.slice (some ⟨g3, 0, none⟩) (k + 1) c3] te)) = .ok (.slice (some ⟨g4, 0, none⟩) (N + 1) c4) w4 ∧
      Half te e c mk B w4 (.slice (some ⟨g1, 0, none⟩) (N + 1) c1) (.slice (some ⟨g4, 0, none⟩) (N + 1) c4) (N + 1) (ext F N v) (ext G N (.slice (some ⟨g3, 0, none⟩) (k + 1) c3)) (ext s N k) ∧ Upd (fun q => v.ownBlock = some q ∨ vM.ownBlock = some q) w w4 ∧ (vM.ownBlock = some g4 ∨ w.heap.size ≤ g4) ∧ (v.ownBlock = some g3 ∨ w.heap.size ≤ g3) := by
  obtain ⟨g3, c3, w3, r3, o3, hv3, u3, l3⟩ := run_pushK (P := Tryd.prog) (t := te) (e := e) (z := z) (bytes := bytes) ht hi hzs hc w te hv x hx hx1 (by unfold maxLen; omega) (by have : (k + 1) * bytes ≤ (k + 1) * 100 := Nat.mul_le_mul_left _ hby; omega) hB
  rw [hmk] at o3
  have hB3 : B ≤ w3.heap.size := Nat.le_trans hB u3.size
  have offt : ∀ {y : Value} {n : Nat} {xs : List Value}, w.ownsRow B te 1 y n xs → ∀ q, y.ownBlock = some q → ¬ v.ownBlock = some q := fun h q hq e1 => by
    obtain ⟨ys, h1⟩ := ownS_type h hq
    obtain ⟨zs, h2⟩ := ownS_type hv e1
    exact hne (blk_type h1 h2)
  have f3 : RowE te B w3 vM N (ext G N (.slice (some ⟨g3, 0, none⟩) (k + 1) c3)) := (rM.upd u3 (offt rM)).congr (fun j hj => (ext_ne _ _ _ _ (by omega)).symm)
  obtain ⟨g4, c4, w4, r4, p4, u4, l4⟩ := f3.push ht2 (z := .slice none 0 0) (bytes := 24) hi2 rfl (by rw [ext_at]; rfl) (by unfold maxLen; omega) (by omega) hB3 t2
  rw [ext_at] at r4
  have offe : ∀ {y : Value} {n : Nat} {xs : List Value}, w3.ownsRow B e c y n xs → ∀ q, y.ownBlock = some q → ¬ vM.ownBlock = some q := fun h q hq e1 => by
    obtain ⟨ys, h1⟩ := ownS_type h hq
    obtain ⟨zs, h2⟩ := ownS_type f3 e1
    exact hne (blk_type h2 h1)
  have rL3 : RowE te B w3 (.slice (some ⟨g1, 0, none⟩) (N + 1) c1) (N + 1) (ext F N v) := rL.upd u3 (offt rL)
  have far : ∀ j, j < N → w3.ownsRow B e c (F j) (s j) (mk (s j) j) ∧ w3.ownsRow B e c (G j) (s j + 1) (mk (s j + 1) j) := fun j hj =>
    ⟨ownS_upd (hl j hj) u3 fun q hq e1 => (hap j hj q e1).1 hq, ownS_upd (hm j hj) u3 fun q hq e1 => (hap j hj q e1).2 hq⟩
  have hl4 : vM.ownBlock = some g4 ∨ w.heap.size ≤ g4 := l4.imp id fun h => Nat.le_trans u3.size h
  refine ⟨g3, c3, w3, g4, c4, w4, r3, u3, r4, ⟨?_, p4, fun j hj => ?_, fun j hj => ?_, fun q hq hq2 => ?_, fun j hj => ?_⟩, ?_, hl4, l3⟩
  · exact rL3.upd u4 fun q hq e1 => by
      injection hq with hq
      have e2 : g1 = q := hq
      subst e2
      exact hvn e1
  · by_cases ej : j = N
    · subst ej
      rw [ext_at, ext_at]
      exact ownS_upd hv3 u4 (offe hv3)
    · rw [ext_ne _ _ _ _ ej, ext_ne _ _ _ _ ej]
      exact ownS_upd (far j (by omega)).1 u4 (offe (far j (by omega)).1)
  · by_cases ej : j = N
    · subst ej
      rw [ext_at, ext_at]
      exact ownS_upd o3 u4 (offe o3)
    · rw [ext_ne _ _ _ _ ej, ext_ne _ _ _ _ ej]
      exact ownS_upd (far j (by omega)).2 u4 (offe (far j (by omega)).2)
  · injection hq with hq
    have e1 : g1 = q := hq
    subst e1
    injection hq2 with hq2
    have e2 : g4 = g1 := hq2
    subst e2
    rcases l4 with h | h
    · exact hvn h
    · have := (rL3.lt g4 rfl).2; omega
  · by_cases ej : j = N
    · subst ej; rw [ext_at]; exact hk
    · rw [ext_ne _ _ _ _ ej]; exact hsm j (by omega)
  · exact (u3.mono fun q _ h => .inl h).trans u4 fun q _ h => .inr h
end Go.Proofs.YtlbgdgobhiokpaaDoor
