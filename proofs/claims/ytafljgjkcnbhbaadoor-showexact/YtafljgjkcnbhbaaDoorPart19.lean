import Derived.Test.YtafljgjkcnbhbaaDoorPart02
import Derived.Test.YtafljgjkcnbhbaaDoorPart15
import Derived.Test.YtafljgjkcnbhbaaDoorPart16
import Derived.Lib.AppendIntMem
import Derived.Deep.RegionLaw
import Derived.Test.YtafljgjkcnbhbaaDoorPart14

/- strconv.Itoa of a number from 0 on; a list of nodes cut by one. -/
namespace Go.Proofs.YtafljgjkcnbhbaaDoor
open Go.RowKit
set_option linter.unusedVariables false

/-- The library's table of powers lies where it lay, below B. -/
structure Tab (B : Nat) (w : World) : Prop where
  is : Lib.TabIs Tryd.prog w "internal/strconv.uint64pow10" .u64 Lib.pow10Tab
  lt : ∀ g, Tryd.prog.globalNamed "internal/strconv.uint64pow10" = some g → g < B
theorem Tab.below {B : Nat} {w w' : World} (h : Tab B w) (hB : Below B w w') : Tab B w' := by
  refine ⟨?_, h.lt⟩
  have h1 := h.is
  unfold Lib.TabIs World.var? at *
  cases hg : Tryd.prog.globalNamed "internal/strconv.uint64pow10" with
  | none => rw [hg] at h1; simp at h1
  | some g =>
    rw [hg] at h1
    simp only [Option.bind_some] at h1 ⊢
    rw [hB.block g (h.lt g hg)]
    exact h1
theorem Tab.mono {B B' : Nat} {w : World} (h : Tab B w) (hB : B ≤ B') : Tab B' w := ⟨h.is, fun g hg => Nat.lt_of_lt_of_le (h.lt g hg) hB⟩
theorem Tab.at {w0 w : World} (h : Tab w0.heap.size w0) (hB : Below w0.heap.size w0 w) : Tab w.heap.size w := (h.below hB).mono hB.size
theorem decF_dec : ∀ (f n : Nat), n < 10 ^ (f + 1) → decF (f + 1) n = Lib.decDigits n
  | 0, n, h => by
    have h1 : n < 10 := by simpa using h
    rw [decF, if_pos h1, Lib.decDigits_one h1]
  | f + 1, n, h => by
    by_cases h10 : n < 10
    · rw [decF, if_pos h10, Lib.decDigits_one h10]
    · have hd : n / 10 < 10 ^ (f + 1) := by
        rw [Nat.pow_succ] at h
        exact Nat.div_lt_of_lt_mul (by rw [Nat.mul_comm]; exact h)
      rw [decF, if_neg h10, decF_dec f (n / 10) hd]
      conv => rhs; rw [Lib.decDigits, dif_neg h10]
theorem dec_is {n : Nat} (h : n ≤ 2147483647) : Lib.decDigits n = dec n := (decF_dec 19 n (Nat.lt_of_le_of_lt h (by decide))).symm
theorem itoa_any (n : Nat) (w : World) (hn : n ≤ 2147483647) (ht : Tab w.heap.size w) : Calls Tryd.prog 26 #[.int .i64 (n : Int)] w fun e w' => e = .returned (.string ⟨(dec n).toArray⟩) ∧ Below w.heap.size w w' := by
  refine (Tryd.strconv_Itoa (n : Int) (by omega) (by omega) w ht.is).mono ?_
  rintro e w' ⟨rfl, k, os, rfl⟩
  refine ⟨?_, Lib.below_grow w.heap.size w (Nat.le_refl _) k os⟩
  have h : Lib.itoa (n : Int) = dec n := by unfold Lib.itoa; rw [if_neg (by omega), Int.toNat_natCast, dec_is hn]
  rw [h]
theorem itoa_c (i : Nat) (hi : i < 100) (s : ByteArray) (hs : (⟨(Lib.decDigits i).toArray⟩ : ByteArray) = s) (w : World) : Calls Tryd.prog 26 #[.int .i64 (i : Int)] w fun e w' => e = .returned (.string s) ∧ w = w' := by
  rw [← hs]
  exact (Tryd.strconv_Itoa_small i hi w).mono fun e w' h => ⟨h.1, h.2.symm⟩
theorem decF_le : ∀ (f n : Nat), (decF f n).length ≤ f
  | 0, n => by simp [decF]
  | f + 1, n => by
    rw [decF]
    split
    · simp
    · have := decF_le f (n / 10)
      simp
      exact this
theorem dec_len (n : Nat) : (dec n).length ≤ 20 := decF_le 20 n
/-! ### A list of nodes, its first cut off -/
theorem elemN : Tryd.prog.underlying 39 = some (.slice (Tryd.prog.elem 39)) := by kernel_rfl
theorem elemNi : Tryd.prog.elem 39 = 38 := by kernel_rfl
theorem sizeOfN (w : World) : (sizeOf (Tryd.prog.elem 39)).run Tryd.prog w = .ok 7 w := by
  rw [elemNi]
  exact Tryd.sizeOf38 w
theorem cut1 (b off L c : Nat) (hL : 1 ≤ L) (hc : L ≤ c) : ∃ off', (1 < L → off' = off + 7) ∧ ∀ w', (Instr.slice 39 (.slice (some ⟨b, off, none⟩) L c) (some (.int .i64 1)) none none).run Tryd.prog w' = .ok (.slice (some ⟨b, off', none⟩) (L - 1) (c - 1)) w' := by
  refine ⟨if c = 1 then off else off + 7, fun h => if_neg (by omega), fun w' => ?_⟩
  rw [run_slice_l (P := Tryd.prog) w' 39 _ L c elemN .i64 1 (by omega) (by omega), sizeOfN]
  by_cases h : c = 1
  · simp [sliced, Result.andThen, h]
  · simp [sliced, Result.andThen, h, add_none]
theorem NRow.cut {w : World} {b off L c : Nat} {x : Nd} {N : List Nd} (h : NRow w (some ⟨b, off, none⟩) (x :: N)) (hL : (x :: N).length = L) (hc : L ≤ c) : ∃ off', (∀ w', (Instr.slice 39 (.slice (some ⟨b, off, none⟩) L c) (some (.int .i64 1)) none none).run Tryd.prog w' = .ok (.slice (some ⟨b, off', none⟩) (L - 1) (c - 1)) w') ∧ NRow w (some ⟨b, off', none⟩) N := by
  obtain ⟨off', h1, h2⟩ := cut1 b off L c (by rw [← hL]; simp) hc
  refine ⟨off', h2, ?_⟩
  obtain ⟨b', o', e, hb, hcell⟩ := h.open (by simp)
  injection e with e
  injection e with e1 e2
  subst e1 e2
  cases hN : N with
  | nil => exact .inl rfl
  | cons y M =>
    rw [← hN]
    refine .inr ⟨_, off', rfl, hb, fun i z hz j hj => ?_⟩
    have := hcell (i + 1) z (by simpa using hz) j hj
    rw [h1 (by rw [← hL, hN]; simp)]
    rw [← this]
    congr 2
    omega
end Go.Proofs.YtafljgjkcnbhbaaDoor

/- A text that is printed, in memory: its box, its bytes, whether it is too long. -/
namespace Go.Proofs.YtafljgjkcnbhbaaDoor
open Go.RowKit
set_option linter.unusedVariables false

/-- The text under way: F is all that was added; nothing is laid behind the bound. -/
def Txw (w : World) (B gT gL : Nat) (F : List UInt8) : Prop := B ≤ gT ∧ B ≤ gL ∧ ∃ (vb : Value) (b : List UInt8) (lg : Bool), Blk w gT 44 [vb] ∧ BR B w vb b ∧ Blk w gL 4 [.bool lg] ∧ b.length ≤ 65536 ∧ ((lg = false ∧ b = F) ∨ (lg = true ∧ 65536 < F.length))
/-- What a call leaves alone. -/
def Kp (B : Nat) (w w' : World) : Prop := Below B w w' ∧ ∀ (k : Nat) (t : TypeId) (ys : List Value), t ≠ 5 → t ≠ 44 → t ≠ 4 → Blk w k t ys → Blk w' k t ys
theorem Kp.refl (B : Nat) (w : World) : Kp B w w := ⟨Below.refl _ _, fun _ _ _ _ _ _ h => h⟩
theorem Kp.trans {B : Nat} {w w' w'' : World} (h : Kp B w w') (k : Kp B w' w'') : Kp B w w'' := ⟨h.1.trans k.1, fun j t ys h1 h2 h3 h4 => k.2 j t ys h1 h2 h3 (h.2 j t ys h1 h2 h3 h4)⟩
theorem Kp.of_below {B : Nat} {w w' : World} (hB : B ≤ w.heap.size) (h : Below w.heap.size w w') : Kp B w w' := ⟨h.mono hB, fun j t ys _ _ _ h4 => h4.later h⟩
theorem Kp.of_upd {B : Nat} {S : Nat → Prop} {w w' : World} (hB : B ≤ w.heap.size) (h : Upd S w w') (hs : ∀ k, S k → B ≤ k) (ht : ∀ k, S k → ∃ t ys, Blk w k t ys ∧ (t = 5 ∨ t = 44 ∨ t = 4)) : Kp B w w' := by
  refine ⟨h.below B hB hs, fun j t ys h1 h2 h3 h4 => h4.upd h (fun hj => ?_)⟩
  obtain ⟨t', ys', k1, k2⟩ := ht j hj
  have := blk_type h4 k1
  subst this
  rcases k2 with k2 | k2 | k2
  · exact h1 k2
  · exact h2 k2
  · exact h3 k2
section
variable {w w' : World} {B gT gL : Nat} {F b : List UInt8} {vb : Value} {lg : Bool}
theorem Txw.later (h : Txw w B gT gL F) (hB : Below w.heap.size w w') : Txw w' B gT gL F := by
  obtain ⟨h1, h2, vb, b, lg, k1, k2, k3, k4⟩ := h
  exact ⟨h1, h2, vb, b, lg, k1.later hB, ownS_upd k2 (Upd.of_below (S := fun _ => False) hB) (fun _ _ h => h), k3.later hB, k4⟩
theorem Txw.size (h : Txw w B gT gL F) : B ≤ w.heap.size := by
  obtain ⟨h1, h2, vb, b, lg, k1, _⟩ := h
  exact Nat.le_trans h1 (Nat.le_of_lt k1.lt)
theorem br_not (k2 : BR B w vb b) {k : Nat} {t : TypeId} {ys : List Value} (hk : Blk w k t ys) (ht : t ≠ 5) : ¬ vb.ownBlock = some k := fun e => by
  obtain ⟨zs, hz⟩ := ownS_type k2 e
  exact ht (blk_type hk hz)
/-- Too long, now or before. -/
theorem txw_long (h1 : B ≤ gT) (h2 : B ≤ gL) (k1 : Blk w gT 44 [vb]) (k2 : BR B w vb b) (k3 : Blk w gL 4 [.bool lg]) (hb : b.length ≤ 65536) (hF : 65536 < F.length) :
    Txw (w.setCell ⟨gL, 0, none⟩ (.bool true)) B gT gL F ∧ Kp B w (w.setCell ⟨gL, 0, none⟩ (.bool true)) := by
  have hU : Upd (fun k => k = gL) w (w.setCell ⟨gL, 0, none⟩ (.bool true)) := (Upd.refl _ w).set _ _ (.inl rfl)
  refine ⟨⟨h1, h2, vb, b, true, k1.upd hU (fun e => ?_), ownS_upd k2 hU (fun k hk e => ?_), by have := k3.set 0 (.bool true); simpa using this, hb, .inr ⟨rfl, hF⟩⟩, Kp.of_upd (Nat.le_trans h1 (Nat.le_of_lt k1.lt)) hU (fun k e => by subst e; exact h2) (fun k e => by subst e; exact ⟨_, _, k3, .inr (.inr rfl)⟩)⟩
  · subst e; exact absurd (blk_type k1 k3) (by decide)
  · subst e; exact br_not k2 k3 (by decide) hk
/-- It fits. -/
theorem txw_fit (h1 : B ≤ gT) (h2 : B ≤ gL) (k1 : Blk w gT 44 [vb]) (k2 : BR B w vb b) (k3 : Blk w gL 4 [.bool lg]) (s : ByteArray) (hs : b.length + s.size ≤ 65536) :
    ∃ v' w2, (∃ a2 n2 c2, v' = .slice a2 n2 c2) ∧ (Builtin.append_ #[44, 9] 44 #[vb, .string s]).run Tryd.prog (w.setCell ⟨gL, 0, none⟩ (.bool false)) = .ok v' w2 ∧ (w2.cell? ⟨gT, 0, none⟩ = some vb ∧ w2.frozen? ⟨gT, 0, none⟩ = false) ∧
      Txw (w2.setCell ⟨gT, 0, none⟩ v') B gT gL (b ++ s.data.toList) ∧ Kp B w (w2.setCell ⟨gT, 0, none⟩ v') := by
  have hBw : B ≤ w.heap.size := Nat.le_trans h1 (Nat.le_of_lt k1.lt)
  obtain ⟨w1, hw1⟩ : ∃ w1, w1 = w.setCell ⟨gL, 0, none⟩ (.bool false) := ⟨_, rfl⟩
  have hU : Upd (fun k => k = gL) w w1 := by rw [hw1]; exact (Upd.refl _ w).set _ _ (.inl rfl)
  have j1 : Blk w1 gT 44 [vb] := k1.upd hU (fun e => by subst e; exact absurd (blk_type k1 k3) (by decide))
  have j2 : BR B w1 vb b := ownS_upd k2 hU (fun k hk e => by subst e; exact br_not k2 k3 (by decide) hk)
  have j3 : Blk w1 gL 4 [.bool false] := by rw [hw1]; have := k3.set 0 (.bool false); simpa using this
  rw [← hw1]
  obtain ⟨v', w2, r1, r2, r3⟩ := j2.app s (by omega) (by omega) (Nat.le_trans hBw hU.size)
  have i1 := j1.upd r3 (br_not j2 j1 (by decide))
  have i3 := j3.upd r3 (br_not j2 j3 (by decide))
  have hU3 : Upd (fun k => k = gT) w2 (w2.setCell ⟨gT, 0, none⟩ v') := (Upd.refl _ w2).set _ _ (.inl rfl)
  refine ⟨v', w2, (by obtain ⟨a2, c2, e⟩ := r2.form; exact ⟨a2, _, c2, e⟩), r1, ⟨by have := i1.cell 0; simpa using this, i1.frozen 0⟩, ⟨h1, h2, v', b ++ s.data.toList, false, by have := i1.set 0 v'; simpa using this, ownS_upd r2 hU3 (fun k hk e => by subst e; exact br_not r2 i1 (by decide) hk), i3.upd hU3 (fun e => by subst e; exact absurd (blk_type i1 i3) (by decide)), by rw [List.length_append, ← Lib.size_eq]; exact hs, .inl ⟨rfl, rfl⟩⟩, ?_⟩
  have q1 : Kp B w w1 := Kp.of_upd hBw hU (fun k e => by subst e; exact h2) (fun k e => by subst e; exact ⟨_, _, k3, .inr (.inr rfl)⟩)
  have q2 : Kp B w1 w2 := Kp.of_upd (Nat.le_trans hBw hU.size) r3 (fun k e => by
    rcases j2.2 with ⟨e2, _⟩ | ⟨g, cap, cur, e2, hb, _⟩
    · subst e2; simp [Value.ownBlock] at e
    · subst e2; obtain rfl := own_is e; exact hb) (fun k e => by obtain ⟨zs, hz⟩ := ownS_type j2 e; exact ⟨_, _, hz, .inl rfl⟩)
  have q3 : Kp B w2 (w2.setCell ⟨gT, 0, none⟩ v') := Kp.of_upd (Nat.le_trans (Nat.le_trans hBw hU.size) r3.size) hU3 (fun k e => by subst e; exact h1) (fun k e => by subst e; exact ⟨_, _, i1, .inr (.inl rfl)⟩)
  exact (q1.trans q2).trans q3
end
def catP : List ByteArray → List UInt8
  | [] => []
  | p :: ps => p.data.toList ++ catP ps
theorem catP_app : ∀ (a b : List ByteArray), catP (a ++ b) = catP a ++ catP b
  | [], b => rfl
  | p :: a, b => by simp [catP, catP_app a b]
theorem catP_take {ps : List ByteArray} {k : Nat} {p : ByteArray} (h : ps[k]? = some p) : catP (ps.take (k + 1)) = catP (ps.take k) ++ p.data.toList := by
  obtain ⟨hk, rfl⟩ := List.getElem?_eq_some_iff.1 h
  rw [List.take_succ_eq_append_getElem hk, catP_app]
  simp [catP]
end Go.Proofs.YtafljgjkcnbhbaaDoor

/- Print's add. -/
namespace Go.Proofs.YtafljgjkcnbhbaaDoor
open Go.RowKit
set_option linter.unusedVariables false

set_option maxRecDepth 100000 in
set_option maxHeartbeats 4000000 in
theorem add_any (B gT gL bp : Nat) (F : List UInt8) (ps : List ByteArray) (n : Nat) (w : World) (hn : ps.length = n) (hn10 : n ≤ 10) (HT : Hid (Txw w B gT gL F)) (HP : Hid (Blk w bp 9 (ps.map Value.string))) (hps : ∀ p ∈ ps, p.size ≤ 100000000) :
    Calls Tryd.prog 14 #[.slice (some ⟨bp, 0, none⟩) n n, .pointer (some ⟨gL, 0, none⟩), .pointer (some ⟨gT, 0, none⟩)] w fun e w' => e = .returned (.tuple #[]) ∧ Hid (Txw w' B gT gL (F ++ catP ps)) ∧ Hid (Kp B w w') := by
  have HT0 : Hid (Txw w B gT gL (F ++ catP (ps.take 0))) := hide_ (by have := HT.out; simpa [catP] using this)
  have Hn := hide_ hn
  have Hps := hide_ hps
  clear hn hps HT
  go_enter Tryd.func14, Tryd.ntmps14
  go_wp2_with fail
  go_loopw [8] (fun x8 wr => ∃ k : Nat, k ≤ n ∧ x8 = .int .i64 (k : Int) ∧ Hid (Txw wr B gT gL (F ++ catP (ps.take k))) ∧ Hid (Kp B w wr)) (fun x8 _ => n - (intOf x8).toNat)
  case atStart => exact ⟨0, Nat.zero_le _, rfl, HT0, hide_ (Kp.refl _ _)⟩
  case round =>
    clear HT0
    obtain ⟨k, hk, rfl, HTr, HKr⟩ := hrel
    generalize wr = wq at *
    by_cases hlt : k < n
    · have hlt' : (k : Int) < n := by omega
      have hkp : ps[k]? = some (ps[k]'(by rw [Hn.out]; exact hlt)) := List.getElem?_eq_getElem _
      have hsz := Hps.out _ (List.getElem_mem (by rw [Hn.out]; exact hlt))
      generalize ps[k]'(by rw [Hn.out]; exact hlt) = p at *
      have HC := hide_ (catP_take hkp)
      have KP := HKr.out.2 bp 9 _ (by decide) (by decide) (by decide) HP.out
      have p0 : wq.cell? ⟨bp, k, none⟩ = some (.string p) := by rw [KP.cell, List.getElem?_map, hkp]; rfl
      clear KP hkp
      obtain ⟨h1, h2, vb, b, lg, k1, k2, k3, hb, hor⟩ := HTr.out
      have c1 := k1.cell 0
      have c3 := k3.cell 0
      have z1 := k1.frozen 0
      have z3 := k3.frozen 0
      simp at c1 c3
      obtain ⟨a, cap, hv⟩ := k2.form
      subst hv
      have hne : gT ≠ gL := fun e => by subst e; exact absurd (blk_type k1 k3) (by decide)
      have hne2 : gL ≠ gT := fun e => hne e.symm
      rcases hor with ⟨rfl, hbF⟩ | ⟨rfl, hF⟩
      · by_cases hfit : b.length + p.size ≤ 65536
        · obtain ⟨v', w2, ⟨a2, n2, cap2, hv2⟩, r1, ⟨r2, r3⟩, r4, r5⟩ := txw_fit h1 h2 k1 k2 k3 p hfit
          subst hv2
          have HR := hide_ r1
          have HT2 : Hid (Txw (w2.setCell ⟨gT, 0, none⟩ (.slice a2 n2 cap2)) B gT gL (F ++ catP (ps.take (k + 1)))) := hide_ (by rw [HC.out, ← List.append_assoc, ← hbF]; exact r4)
          have HK2 := hide_ (HKr.out.trans r5)
          have d1 : (wq.setCell ⟨gL, 0, none⟩ (.bool false)).cell? ⟨gT, 0, none⟩ = some (.slice a b.length cap) := by
            have := (k1.other ⟨gL, 0, none⟩ (.bool false) hne).cell 0
            simpa using this
          have hcmp : ¬ ((p.size : Int) > 65536 - (b.length : Int)) := by omega
          have hcmp2 : ¬ (65536 - (b.length : Int) < (p.size : Int)) := by omega
          clear r1 r4 r5 k1 k2 k3 hbF HTr HKr HC
          go_wp2_with (at_builtin; have _t := HR; refine wpList_append_run rfl (.tmp 23) (.tmp 24) 44 9 rfl rfl rfl HR.out ?_; clear HR)
          go_roundw
          case rel => exact ⟨k + 1, by omega, by go_num, HT2, HK2⟩
          case measure => simp [intOf]; omega
        · obtain ⟨r4, r5⟩ := txw_long (F := F ++ catP (ps.take (k + 1))) h1 h2 k1 k2 k3 hb (by rw [HC.out, ← List.append_assoc, ← hbF, List.length_append, ← Lib.size_eq]; omega)
          have HT2 := hide_ r4
          have HK2 := hide_ (HKr.out.trans r5)
          have hcmp : ((p.size : Int) > 65536 - (b.length : Int)) := by omega
          have hcmp2 : (65536 - (b.length : Int) < (p.size : Int)) := by omega
          clear r4 r5 k1 k2 k3 hbF HTr HKr HC
          go_wp2
          go_roundw
          case rel => exact ⟨k + 1, by omega, by go_num, HT2, HK2⟩
          case measure => simp [intOf]; omega
      · obtain ⟨r4, r5⟩ := txw_long (F := F ++ catP (ps.take (k + 1))) h1 h2 k1 k2 k3 hb (by rw [HC.out, ← List.append_assoc, List.length_append]; omega)
        have HT2 := hide_ r4
        have HK2 := hide_ (HKr.out.trans r5)
        clear r4 r5 k1 k2 k3 hF HTr HKr HC
        go_wp2
        go_roundw
        case rel => exact ⟨k + 1, by omega, by go_num, HT2, HK2⟩
        case measure => simp [intOf]; omega
    · obtain rfl : k = n := by omega
      have HT2 : Hid (Txw wq B gT gL (F ++ catP ps)) := hide_ (by have := HTr.out; rwa [← Hn.out, List.take_length] at this)
      clear HTr
      go_wp2
      exact bodyPost_end (v := .tuple #[]) (by simp [results, Tryd.results14]) rfl ⟨rfl, HT2, HKr⟩
/-- add, called with one piece, or with three. -/
theorem add1 {B gT gL : Nat} {F : List UInt8} {w : World} (HT : Hid (Txw w B gT gL F)) (s : ByteArray) (hs : s.size ≤ 1000000) :
    Calls Tryd.prog 14 #[.slice (some ⟨w.heap.size, 0, none⟩) 1 1, .pointer (some ⟨gL, 0, none⟩), .pointer (some ⟨gT, 0, none⟩)] (w.alloc (.cells #[.string s] 9)) fun e w' => e = .returned (.tuple #[]) ∧ Hid (Txw w' B gT gL (F ++ s.data.toList)) ∧ Hid (Kp B w w') := by
  have hB : Below w.heap.size w (w.alloc (.cells #[.string s] 9)) := (Below.refl _ _).alloc (Nat.le_refl _) _
  refine (add_any B gT gL w.heap.size F [s] 1 _ rfl (by decide) (hide_ (HT.out.later hB)) (hide_ (Blk.newA w #[.string s] 9)) (fun p hp => by obtain rfl := List.mem_singleton.1 hp; omega)).mono ?_
  rintro e w' ⟨rfl, h1, h2⟩
  exact ⟨rfl, by have := h1; simpa [catP] using this, hide_ ((Kp.of_below HT.out.size hB).trans h2.out)⟩
theorem add3 {B gT gL : Nat} {F : List UInt8} {w : World} (HT : Hid (Txw w B gT gL F)) (s t u : ByteArray) (hs : s.size ≤ 1000000) (ht : t.size ≤ 1000000) (hu : u.size ≤ 1000000) :
    Calls Tryd.prog 14 #[.slice (some ⟨w.heap.size, 0, none⟩) 3 3, .pointer (some ⟨gL, 0, none⟩), .pointer (some ⟨gT, 0, none⟩)] (w.alloc (.cells #[.string s, .string t, .string u] 9)) fun e w' => e = .returned (.tuple #[]) ∧ Hid (Txw w' B gT gL (F ++ (s.data.toList ++ (t.data.toList ++ u.data.toList)))) ∧ Hid (Kp B w w') := by
  have hB : Below w.heap.size w (w.alloc (.cells #[.string s, .string t, .string u] 9)) := (Below.refl _ _).alloc (Nat.le_refl _) _
  refine (add_any B gT gL w.heap.size F [s, t, u] 3 _ rfl (by decide) (hide_ (HT.out.later hB)) (hide_ (Blk.newA w #[.string s, .string t, .string u] 9)) (fun p hp => by
    simp only [List.mem_cons, List.mem_nil_iff, or_false] at hp
    rcases hp with rfl | rfl | rfl <;> omega)).mono ?_
  rintro e w' ⟨rfl, h1, h2⟩
  exact ⟨rfl, by have := h1; simpa [catP] using this, hide_ ((Kp.of_below HT.out.size hB).trans h2.out)⟩
end Go.Proofs.YtafljgjkcnbhbaaDoor

/- word, head. -/
namespace Go.Proofs.YtafljgjkcnbhbaaDoor
open Go.RowKit
set_option linter.unusedVariables false

theorem d8 : (⟨(Lib.decDigits 8).toArray⟩ : ByteArray) = ⟨#[56]⟩ := by rw [Lib.decDigits_one (by decide)]; rfl
theorem d16 : (⟨(Lib.decDigits 16).toArray⟩ : ByteArray) = ⟨#[49, 54]⟩ := by rw [Lib.decDigits_two (by decide) (by decide)]; rfl
theorem d32 : (⟨(Lib.decDigits 32).toArray⟩ : ByteArray) = ⟨#[51, 50]⟩ := by rw [Lib.decDigits_two (by decide) (by decide)]; rfl
theorem d64 : (⟨(Lib.decDigits 64).toArray⟩ : ByteArray) = ⟨#[54, 52]⟩ := by rw [Lib.decDigits_two (by decide) (by decide)]; rfl
theorem nd_kinds {x : Nd} {of : Int} {dp : Nat} (h : ndE x of dp = 0) : x.k = 1 ∨ x.k = 2 ∨ x.k = 3 ∨ x.k = 4 ∨ x.k = 5 ∨ x.k = 6 ∨ x.k = 7 ∨ x.k = 8 ∨ x.k = 9 := by
  rcases kinds h with ⟨e, _⟩ | ⟨_, _, ⟨e, _⟩ | ⟨e, _⟩ | ⟨e, _⟩ | ⟨e, _⟩⟩ <;> omega
theorem nd_u {x : Nd} {of : Int} {dp : Nat} (h : ndE x of dp = 0) (hk : x.k = 1) : x.n = 1 ∨ x.n = 2 ∨ x.n = 4 ∨ x.n = 8 := by
  obtain ⟨_, h1, _⟩ := nd_ok h
  unfold kindOk at h1
  rw [if_pos hk] at h1
  exact (of_decide_eq_true h1).1
set_option maxRecDepth 100000 in
set_option maxHeartbeats 4000000 in
theorem wordX_any {x : Nd} {of : Int} {dp : Nat} (h : ndE x of dp = 0) (w : World) : Calls Tryd.prog 25 #[ndv x] w fun e w' => e = .returned (.string (wordT x)) ∧ Below w.heap.size w w' := by
  have hk := nd_kinds h
  have hu := nd_u h
  clear h
  obtain ⟨k, n, nm, lb, tg, kd, a⟩ := x
  simp only at hk hu
  have HB : Hid (∀ o, Below w.heap.size w (w.alloc o)) := hide_ (fun o => (Below.refl _ _).alloc (Nat.le_refl _) _)
  unfold ndv
  rcases hk with rfl | rfl | rfl | rfl | rfl | rfl | rfl | rfl | rfl
  · rcases hu rfl with rfl | rfl | rfl | rfl
    · go_enter Tryd.func25, Tryd.ntmps25
      go_wp2_with (go_at_call 26; refine (itoa_c 8 (by decide) ⟨#[56]⟩ d8 _).mono ?_; rintro e w' ⟨rfl, rfl⟩)
      go_ret
      exact ⟨rfl, HB.out _⟩
    · go_enter Tryd.func25, Tryd.ntmps25
      go_wp2_with (go_at_call 26; refine (itoa_c 16 (by decide) ⟨#[49, 54]⟩ d16 _).mono ?_; rintro e w' ⟨rfl, rfl⟩)
      go_ret
      exact ⟨rfl, HB.out _⟩
    · go_enter Tryd.func25, Tryd.ntmps25
      go_wp2_with (go_at_call 26; refine (itoa_c 32 (by decide) ⟨#[51, 50]⟩ d32 _).mono ?_; rintro e w' ⟨rfl, rfl⟩)
      go_ret
      exact ⟨rfl, HB.out _⟩
    · go_enter Tryd.func25, Tryd.ntmps25
      go_wp2_with (go_at_call 26; refine (itoa_c 64 (by decide) ⟨#[54, 52]⟩ d64 _).mono ?_; rintro e w' ⟨rfl, rfl⟩)
      go_ret
      exact ⟨rfl, HB.out _⟩
  all_goals
    clear hu
    go_enter Tryd.func25, Tryd.ntmps25
    go_wp2
    go_ret
    exact ⟨rfl, HB.out _⟩
set_option maxRecDepth 100000 in
set_option maxHeartbeats 4000000 in
theorem head7 (x : Nd) (n : Nat) (hx : x.tag = (n : Int)) (hn : n ≤ 2147483647) (w : World) (ht : Hid (Tab w.heap.size w)) : Calls Tryd.prog 44 #[ndv x, .int .i64 7] w fun e w' => e = .returned (.string ⟨(dec n).toArray⟩) ∧ Below w.heap.size w w' := by
  obtain ⟨k, m, nm, lb, tg, kd, a⟩ := x
  simp only at hx
  subst hx
  have HB : Hid (∀ o, Below w.heap.size w (w.alloc o)) := hide_ (fun o => (Below.refl _ _).alloc (Nat.le_refl _) _)
  unfold ndv
  go_enter Tryd.func44, Tryd.ntmps44
  go_wp2_with fail
  refine (itoa_any n _ hn (ht.out.at (HB.out _))).mono ?_
  rintro e w' ⟨rfl, hB⟩
  have HB2 := hide_ ((HB.out _).trans (hB.mono (HB.out _).size))
  clear hB ht
  go_wp2
  go_ret
  exact ⟨rfl, HB2.out⟩
set_option maxRecDepth 100000 in
set_option maxHeartbeats 4000000 in
theorem head8 (x : Nd) (w : World) : Calls Tryd.prog 44 #[ndv x, .int .i64 8] w fun e w' => e = .returned (.string x.label) ∧ Below w.heap.size w w' := by
  obtain ⟨k, m, nm, lb, tg, kd, a⟩ := x
  have HB : Hid (∀ o, Below w.heap.size w (w.alloc o)) := hide_ (fun o => (Below.refl _ _).alloc (Nat.le_refl _) _)
  unfold ndv
  go_enter Tryd.func44, Tryd.ntmps44
  go_wp2
  go_ret
  exact ⟨rfl, HB.out _⟩
end Go.Proofs.YtafljgjkcnbhbaaDoor

/- The printed form, piece by piece: plain; what addType's call leaves. -/
namespace Go.Proofs.YtafljgjkcnbhbaaDoor
open Go.RowKit
set_option linter.unusedVariables false

/-- The style of the printed form: nothing stands between tokens. -/
def st0 : Sty := ⟨[], [], [], [], [], [], [], []⟩
theorem st0_ok : StyOk st0 := ⟨FillOk.nil, FillOk.nil, FillOk.nil, FillOk.nil, FillOk.nil, FillOk.nil, FillOk.nil, FillOk.nil⟩
theorem wbw (s : ByteArray) : wb (qw s) = s.data.toList := by unfold wb qw; rw [if_neg (by simp)]
theorem wbm (b : UInt8) : wb (qm b) = [b] := by unfold wb qm; rw [if_neg (by simp)]
theorem wbn (n : Int) : wb (qn n) = dec n.toNat := by unfold wb qn; rw [if_pos rfl]
theorem ws_one {st : Sty} {fu d : Nat} {k : Int} {A : List Nd} {P : List (Q × List UInt8)} (h7 : k ≠ 7) (h8 : k ≠ 8) (h : WS st fu d k 1 A P) : ∃ f z A1 PA, f < fu ∧ A = z :: A1 ∧ ndE z k d = 0 ∧ WS st f (d + 1) z.k z.kids.toNat A1 PA ∧ P = opnS st z ++ (PA ++ clsS st z) := by
  cases fu with
  | zero => exact absurd h.1 (by decide)
  | succ f =>
    obtain ⟨x, A1, B, PA, PB, rfl, h2, hA, hB, rfl⟩ := h
    obtain ⟨rfl, rfl⟩ := hB.zero
    refine ⟨f, x, A1, PA, Nat.lt_succ_self _, by simp, h2, hA, ?_⟩
    have e1 : hdS st k x = [] := by unfold hdS; rw [if_neg h7, if_neg h8]
    have e2 : sepS k 0 = [] := by unfold sepS; rw [if_neg (by omega)]
    rw [e1, e2]
    simp
/-- What stands ahead of a part's colon. -/
def hdX (k : Int) (z : Nd) : ByteArray := if k = 7 then ⟨(dec z.tag.toNat).toArray⟩ else z.label
def sp0 (r : Nat) : List UInt8 := if 0 < r then [44] else []
theorem ws_part {fu d r : Nat} {k : Int} {A : List Nd} {P : List (Q × List UInt8)} (hk : k = 7 ∨ k = 8) (h : WS st0 fu d k (r + 1) A P) : ∃ f z A1 B1 PA PB, f < fu ∧ A = z :: (A1 ++ B1) ∧ ndE z k d = 0 ∧ WS st0 f (d + 1) z.k z.kids.toNat A1 PA ∧ WS st0 f d k r B1 PB ∧
    txtP P = (hdX k z).data.toList ++ ([58] ++ (txtP (opnS st0 z ++ (PA ++ clsS st0 z)) ++ (sp0 r ++ txtP PB))) := by
  cases fu with
  | zero => exact absurd h.1 (by omega)
  | succ f =>
    obtain ⟨x, A1, B, PA, PB, rfl, h2, hA, hB, rfl⟩ := h
    refine ⟨f, x, A1, B, PA, PB, Nat.lt_succ_self _, rfl, h2, hA, hB, ?_⟩
    have e1 : txtP (hdS st0 k x) = (hdX k x).data.toList ++ [58] := by
      unfold hdS hdX
      rcases hk with rfl | rfl
      · rw [if_pos rfl, if_pos rfl]; simp [txtP, wbm, wbn, st0]
      · rw [if_neg (by decide), if_pos rfl, if_neg (by decide)]; simp [txtP, wbm, wbw, st0]
    have e2 : txtP (sepS k r) = sp0 r := by
      unfold sepS sp0
      by_cases hr : 0 < r
      · rw [if_pos ⟨hk, hr⟩, if_pos hr]; simp [txtP, wbm]
      · rw [if_neg (fun h => hr h.2), if_neg hr]; rfl
    simp only [txtP_app, e1, e2, List.append_assoc]
def bef (i : Nat) : ByteArray := if i = 0 then ⟨#[123]⟩ else ⟨#[44]⟩
theorem bef_size (i : Nat) : (bef i).size = 1 := by unfold bef; split <;> rfl
/-- The parts of a struct or union, so many of them written. -/
def PtR (k : Int) (d fu n : Nat) (T : List UInt8) (i : Nat) (Rm : List Nd) (Fi : List UInt8) : Prop :=
  (i = n ∧ Fi = T ∧ Rm = []) ∨ (i < n ∧ ∃ f P, f ≤ fu ∧ WS st0 f d k (n - i) Rm P ∧ Fi ++ ((bef i).data.toList ++ txtP P) = T)
theorem PtR.start {k : Int} {d fu n : Nat} {A : List Nd} {P : List (Q × List UInt8)} (F : List UInt8) (hn : 0 < n) (h : WS st0 fu d k n A P) : PtR k d fu n (F ++ ([123] ++ txtP P)) 0 A F := .inr ⟨hn, fu, P, Nat.le_refl _, h, by simp [bef]⟩
theorem PtR.done {k : Int} {d fu n : Nat} {T Fi : List UInt8} {Rm : List Nd} (h : PtR k d fu n T n Rm Fi) : Fi = T ∧ Rm = [] := by
  rcases h with h | h
  · exact h.2
  · exact absurd h.1 (Nat.lt_irrefl _)
theorem PtR.step {k : Int} {d fu n i : Nat} {T Fi : List UInt8} {Rm : List Nd} (hk : k = 7 ∨ k = 8) (h : PtR k d fu n T i Rm Fi) (hi : i < n) : ∃ f z A1 B1 PA, f < fu ∧ Rm = z :: (A1 ++ B1) ∧ ndE z k d = 0 ∧ WS st0 f (d + 1) z.k z.kids.toNat A1 PA ∧
    PtR k d fu n T (i + 1) B1 (Fi ++ ((bef i).data.toList ++ ((hdX k z).data.toList ++ [58])) ++ txtP (opnS st0 z ++ (PA ++ clsS st0 z))) := by
  rcases h with h | ⟨_, f, P, hf, hW, hT⟩
  · omega
  · obtain ⟨r, hr⟩ : ∃ r, n - i = r + 1 := ⟨n - i - 1, by omega⟩
    rw [hr] at hW
    obtain ⟨f', z, A1, B1, PA, PB, h1, h2, h3, h4, h5, h6⟩ := ws_part hk hW
    refine ⟨f', z, A1, B1, PA, by omega, h2, h3, h4, ?_⟩
    rw [h6] at hT
    by_cases hr0 : r = 0
    · subst hr0
      obtain ⟨e1, e2⟩ := h5.zero
      refine .inl ⟨by omega, ?_, e1⟩
      rw [← hT, e2]
      simp [sp0, txtP]
    · refine .inr ⟨by omega, f', PB, by omega, by rw [show n - (i + 1) = r by omega]; exact h5, ?_⟩
      rw [← hT]
      have e : (bef (i + 1)).data.toList = [44] := by unfold bef; rw [if_neg (by omega)]
      rw [e]
      simp [sp0, Nat.pos_of_ne_zero hr0]
/-! ### addType's and addParts' contracts -/
def TyTo (w0 w : World) (gT gL : Nat) (F : List UInt8) (R : List Nd) (cap : Nat) (e : Ending) (w' : World) : Prop :=
  ∃ a' c', e = .returned (.slice a' R.length c') ∧ R.length ≤ c' ∧ c' ≤ cap ∧ Hid (NRow w0 a' R) ∧ Hid (Txw w' w0.heap.size gT gL F) ∧ Hid (Kp w0.heap.size w w')
def TyOk (fu : Nat) : Prop := ∀ (w0 w : World) (gT gL d : Nat) (k : Int) (x : Nd) (A R : List Nd) (PA : List (Q × List UInt8)) (a : Option Addr) (L cap : Nat) (F : List UInt8), ndE x k d = 0 → WS st0 fu (d + 1) x.k x.kids.toNat A PA → (x :: (A ++ R)).length = L → L ≤ cap →
  Hid (NRow w0 a (x :: (A ++ R))) → Hid (Below w0.heap.size w0 w) → Hid (Tab w0.heap.size w0) → Hid (Txw w w0.heap.size gT gL F) →
  Calls Tryd.prog 15 #[.func (.func 14) #[] #[.pointer (some ⟨gL, 0, none⟩), .pointer (some ⟨gT, 0, none⟩)], .slice a L cap] w fun e w' => TyTo w0 w gT gL (F ++ txtP (opnS st0 x ++ (PA ++ clsS st0 x))) R cap e w'
def PtOk (fu : Nat) : Prop := ∀ (w0 w : World) (gT gL d n : Nat) (o : Nd) (A R : List Nd) (PA : List (Q × List UInt8)) (a : Option Addr) (L cap : Nat) (F : List UInt8), (o.k = 7 ∨ o.k = 8) → o.kids = (n : Int) → 0 < n → n ≤ 64 → WS st0 fu d o.k n A PA → (A ++ R).length = L → L ≤ cap →
  Hid (NRow w0 a (A ++ R)) → Hid (Below w0.heap.size w0 w) → Hid (Tab w0.heap.size w0) → Hid (Txw w w0.heap.size gT gL F) →
  Calls Tryd.prog 27 #[.func (.func 14) #[] #[.pointer (some ⟨gL, 0, none⟩), .pointer (some ⟨gT, 0, none⟩)], .slice a L cap, ndv o] w fun e w' => TyTo w0 w gT gL (F ++ ([123] ++ (txtP PA ++ [125]))) R cap e w'
end Go.Proofs.YtafljgjkcnbhbaaDoor

/- addParts, addType. -/
namespace Go.Proofs.YtafljgjkcnbhbaaDoor
open Go.RowKit
set_option linter.unusedVariables false

theorem nd_wsize {x : Nd} {of : Int} {dp : Nat} (h : ndE x of dp = 0) : (wordT x).size ≤ 100 := by
  rcases nd_kinds h with e | e | e | e | e | e | e | e | e
  · rcases nd_u h e with e2 | e2 | e2 | e2 <;> simp [wordT, wordN, e, e2] <;> decide
  · simp [wordT, e]; decide
  · simp [wordT, e]; decide
  · simp [wordT, e]; decide
  · simp [wordT, e]; decide
  · simp [wordT, e]; decide
  · simp [wordT, e]; decide
  · simp [wordT, e]; decide
  · have hn : isName x.name = true := by
      rcases kinds h with ⟨_, _, _, h3⟩ | ⟨h9, _⟩
      · exact h3
      · exact absurd e h9
    have : wordT x = x.name := by simp [wordT, e]
    rw [this]
    obtain ⟨_, h2, _⟩ := of_decide_eq_true hn
    omega
/-! ### The text of a node, kind by kind -/
theorem tx_leaf {x : Nd} (h : x.k = 1 ∨ x.k = 2 ∨ x.k = 3 ∨ x.k = 9) : txtP (opnS st0 x ++ (([] : List (Q × List UInt8)) ++ clsS st0 x)) = (wordT x).data.toList := by
  have e1 : opnS st0 x = [(qw (wordT x), [])] := by unfold opnS; rw [if_neg (by omega), if_neg (by omega)]
  have e2 : clsS st0 x = [] := by unfold clsS; rw [if_neg (by omega), if_neg (by omega), if_neg (by omega)]
  rw [e1, e2]
  simp [txtP, wbw]
theorem tx_list {x : Nd} (h : x.k = 4 ∨ x.k = 5) (P : List (Q × List UInt8)) : txtP (opnS st0 x ++ (P ++ clsS st0 x)) = (wordT x).data.toList ++ ([60] ++ (txtP P ++ ([44] ++ (dec x.n.toNat ++ [62])))) := by
  have e1 : txtP (opnS st0 x) = (wordT x).data.toList ++ [60] := by
    unfold opnS
    rw [if_pos (by omega)]
    by_cases h5 : x.k = 5
    · rw [if_pos h5]; simp [txtP, wbw, wbm, st0]
    · rw [if_neg h5]; simp [txtP, wbw, wbm]
  have e2 : txtP (clsS st0 x) = [44] ++ (dec x.n.toNat ++ [62]) := by
    unfold clsS
    rw [if_pos h]
    simp [txtP, wbm, wbn, st0]
  simp only [txtP_app, e1, e2, List.append_assoc]
theorem tx_opt {x : Nd} (h : x.k = 6) (P : List (Q × List UInt8)) : txtP (opnS st0 x ++ (P ++ clsS st0 x)) = (wordT x).data.toList ++ ([60] ++ (txtP P ++ [62])) := by
  have e1 : txtP (opnS st0 x) = (wordT x).data.toList ++ [60] := by
    unfold opnS
    rw [if_pos (by omega), if_neg (by omega)]
    simp [txtP, wbw, wbm]
  have e2 : txtP (clsS st0 x) = [62] := by
    unfold clsS
    rw [if_neg (by omega), if_pos h]
    simp [txtP, wbm]
  simp only [txtP_app, e1, e2, List.append_assoc]
theorem tx_parts {x : Nd} (h : x.k = 7 ∨ x.k = 8) (P : List (Q × List UInt8)) : txtP (opnS st0 x ++ (P ++ clsS st0 x)) = (wordT x).data.toList ++ ([123] ++ (txtP P ++ [125])) := by
  have e1 : txtP (opnS st0 x) = (wordT x).data.toList ++ [123] := by
    unfold opnS
    rw [if_neg (by omega), if_pos h]
    by_cases h5 : x.k = 8
    · rw [if_pos h5]; simp [txtP, wbw, wbm, st0]
    · rw [if_neg h5]; simp [txtP, wbw, wbm]
  have e2 : txtP (clsS st0 x) = [125] := by
    unfold clsS
    rw [if_neg (by omega), if_neg (by omega), if_pos h]
    simp [txtP, wbm]
  simp only [txtP_app, e1, e2, List.append_assoc]
theorem nd_kids0 {x : Nd} {of : Int} {dp : Nat} (h : ndE x of dp = 0) (hk : x.k = 1 ∨ x.k = 2 ∨ x.k = 3 ∨ x.k = 9) : x.kids = 0 := by
  rcases kinds h with ⟨_, _, e, _⟩ | ⟨_, _, ⟨_, e, _⟩ | ⟨e1, e, _⟩ | ⟨e1, e, _⟩ | ⟨e1, _⟩⟩ <;> omega
theorem nd_kids1 {x : Nd} {of : Int} {dp : Nat} (h : ndE x of dp = 0) (hk : x.k = 4 ∨ x.k = 5 ∨ x.k = 6) : x.kids = 1 := by
  rcases kinds h with ⟨e1, _, e, _⟩ | ⟨_, _, ⟨e1, e, _⟩ | ⟨e1, e, _⟩ | ⟨e1, e, _⟩ | ⟨e1, _⟩⟩ <;> omega
theorem nd_kidsn {x : Nd} {of : Int} {dp : Nat} (h : ndE x of dp = 0) (hk : x.k = 7 ∨ x.k = 8) : ∃ n : Nat, x.kids = (n : Int) ∧ 0 < n ∧ n ≤ 64 := by
  have h2 := (nd_ok h).2.2.2.2.2
  rcases kinds h with ⟨e1, _, e, _⟩ | ⟨_, _, ⟨e1, e, _⟩ | ⟨e1, e, _⟩ | ⟨e1, e, _⟩ | ⟨e1, e, _⟩⟩
  · omega
  · omega
  · omega
  · omega
  · exact ⟨x.kids.toNat, by omega, by omega, by omega⟩
theorem nd_n {x : Nd} {of : Int} {dp : Nat} (h : ndE x of dp = 0) (hk : x.k = 4 ∨ x.k = 5) : ∃ n : Nat, x.n = (n : Int) ∧ n ≤ 2147483647 := by
  have h3 := of_decide_eq_true (nd_num h hk)
  exact ⟨x.n.toNat, by omega, by omega⟩
theorem dec_arr (n : Nat) : (⟨(dec n).toArray⟩ : ByteArray).data.toList = dec n := by simp
theorem dec_size (n : Nat) : (⟨(dec n).toArray⟩ : ByteArray).size ≤ 20 := by rw [Lib.size_eq, dec_arr]; exact dec_len n
set_option maxRecDepth 100000 in
set_option maxHeartbeats 8000000 in
theorem ty_step (fu : Nat) (IH : Hid (∀ f, f < fu → TyOk f)) (HPt : Hid (PtOk fu)) : TyOk fu := by
  intro w0 w gT gL d k x A R PA a L cap F hx hW hL hc HR HB0 HTab HT
  have hws := nd_wsize hx
  have HWd := hide_ (fun w => wordX_any hx w)
  obtain ⟨b, off, rfl, hb, hcell⟩ := (HR.out).open (by simp)
  obtain ⟨off', hsl, hN'⟩ := HR.out.cut hL hc
  have hL1 : (A ++ R).length = L - 1 := by rw [← hL]; simp
  have hLp : 0 < L := by rw [← hL]; simp
  obtain ⟨L1, hL1'⟩ : ∃ m, L - 1 = m := ⟨_, rfl⟩
  obtain ⟨c1, hc1'⟩ : ∃ m, cap - 1 = m := ⟨_, rfl⟩
  have hlc1 : L1 ≤ c1 := by omega
  have hc1c : c1 ≤ cap := by omega
  rw [hL1', hc1'] at hsl
  rw [hL1'] at hL1
  have HL1 := hide_ hL1
  clear hL1 hL1' hc1'
  have g := fun j hj => (HB0.out.cell (p := ⟨b, off + 0 * 7 + j, none⟩) hb).trans (hcell 0 x rfl j hj)
  have n0 := g 0 (by decide); have n1 := g 1 (by decide); have n2 := g 2 (by decide); have n3 := g 3 (by decide); have n4 := g 4 (by decide); have n5 := g 5 (by decide); have n6 := g 6 (by decide)
  simp [ndc] at n0 n1 n2 n3 n4 n5 n6
  have hbw : b < w.heap.size := Nat.lt_of_lt_of_le hb HB0.out.size
  have n0a : ∀ ob, (w.alloc ob).cell? ⟨b, off, none⟩ = _ := fun ob => (cell_al w ob _ _ hbw).trans n0
  have n1a : ∀ ob, (w.alloc ob).cell? ⟨b, off + 1, none⟩ = _ := fun ob => (cell_al w ob _ _ hbw).trans n1
  have n2a : ∀ ob, (w.alloc ob).cell? ⟨b, off + 2, none⟩ = _ := fun ob => (cell_al w ob _ _ hbw).trans n2
  have n3a : ∀ ob, (w.alloc ob).cell? ⟨b, off + 3, none⟩ = _ := fun ob => (cell_al w ob _ _ hbw).trans n3
  have n4a : ∀ ob, (w.alloc ob).cell? ⟨b, off + 4, none⟩ = _ := fun ob => (cell_al w ob _ _ hbw).trans n4
  have n5a : ∀ ob, (w.alloc ob).cell? ⟨b, off + 5, none⟩ = _ := fun ob => (cell_al w ob _ _ hbw).trans n5
  have n6a : ∀ ob, (w.alloc ob).cell? ⟨b, off + 6, none⟩ = _ := fun ob => (cell_al w ob _ _ hbw).trans n6
  have HN' := hide_ hN'
  have Hx := hide_ hx
  have HW := hide_ hW
  clear hcell g hN' hx hW HR hL
  obtain ⟨wA, hwA⟩ : ∃ wA, wA = (w.alloc (.cells #[.int .i64 x.k, .int .i64 x.n, .string x.name, .string x.label, .int .i64 x.tag, .int .i64 x.kids, .int .i64 x.a] 38)).drew := ⟨_, rfl⟩
  have KA : Blk wA w.heap.size 38 [.int .i64 x.k, .int .i64 x.n, .string x.name, .string x.label, .int .i64 x.tag, .int .i64 x.kids, .int .i64 x.a] := by rw [hwA]; exact (Blk.newA w #[.int .i64 x.k, .int .i64 x.n, .string x.name, .string x.label, .int .i64 x.tag, .int .i64 x.kids, .int .i64 x.a] 38).drew
  have hBA : Below w.heap.size w wA := by rw [hwA]; exact ((Below.refl _ _).alloc (Nat.le_refl _) _).drew
  have HTA := hide_ (HT.out.later hBA)
  have HKA := hide_ (Kp.of_below HB0.out.size hBA)
  have HKb := hide_ KA
  clear KA hBA HT
  go_enter Tryd.func15, Tryd.ntmps15
  go_wp2_with fail
  go_region
  rw [← hwA]
  clear hwA n0 n0a n1 n1a n2 n2a n3 n3a n4 n4a n5 n5a n6 n6a
  have u0 := HKb.out.cell 0; have u1 := HKb.out.cell 1; have u2 := HKb.out.cell 2; have u3 := HKb.out.cell 3; have u4 := HKb.out.cell 4; have u5 := HKb.out.cell 5; have u6 := HKb.out.cell 6
  simp at u0 u1 u2 u3 u4 u5 u6
  go_wp2_with fail
  refine (HWd.out wA).mono ?_; rintro e w1 ⟨rfl, hB1⟩
  have HT1 := hide_ (HTA.out.later hB1)
  have HK1 := hide_ (HKA.out.trans (Kp.of_below HTA.out.size hB1))
  have HKb1 := hide_ (HKb.out.later hB1)
  clear u0 u1 u2 u3 u4 u5 u6 hB1 HTA HKA HKb HWd
  go_wp2_with fail
  refine (add1 HT1 (wordT x) (by omega)).mono ?_; rintro e w2 ⟨rfl, HT2, HK2'⟩
  have HKb2 := hide_ (HK2'.out.2 _ _ _ (by decide) (by decide) (by decide) HKb1.out)
  have HK2 := hide_ (HK1.out.trans HK2'.out)
  have HB2 := hide_ (HB0.out.trans HK2.out.1)
  clear HT1 HK1 HKb1 HK2'
  have y0 := HKb2.out.cell 0
  simp at y0
  rcases nd_kinds Hx.out with hk | hk | hk | hk | hk | hk | hk | hk | hk
  · have hk0 := nd_kids0 Hx.out (by omega)
    have hWz := HW.out
    rw [hk0] at hWz
    obtain ⟨hA, hPA⟩ := WS.zero hWz
    rw [hk] at y0
    have HF : Hid (F ++ (wordT x).data.toList = F ++ txtP (opnS st0 x ++ (PA ++ clsS st0 x))) := hide_ (by rw [hPA, tx_leaf (by omega)])
    have HR' : Hid (L1 = R.length) := hide_ (by rw [← HL1.out, hA]; rfl)
    have HNr : Hid (NRow w0 (some ⟨b, off', none⟩) R) := hide_ (by have := HN'.out; rw [hA] at this; exact this)
    clear hA hPA hk0 hWz hk
    go_wp2
    go_ret
    exact ⟨_, c1, by rw [← HR'.out]; rfl, by rw [← HR'.out]; exact hlc1, hc1c, HNr, by rw [← HF.out]; exact HT2, HK2⟩
  · have hk0 := nd_kids0 Hx.out (by omega)
    have hWz := HW.out
    rw [hk0] at hWz
    obtain ⟨hA, hPA⟩ := WS.zero hWz
    rw [hk] at y0
    have HF : Hid (F ++ (wordT x).data.toList = F ++ txtP (opnS st0 x ++ (PA ++ clsS st0 x))) := hide_ (by rw [hPA, tx_leaf (by omega)])
    have HR' : Hid (L1 = R.length) := hide_ (by rw [← HL1.out, hA]; rfl)
    have HNr : Hid (NRow w0 (some ⟨b, off', none⟩) R) := hide_ (by have := HN'.out; rw [hA] at this; exact this)
    clear hA hPA hk0 hWz hk
    go_wp2
    go_ret
    exact ⟨_, c1, by rw [← HR'.out]; rfl, by rw [← HR'.out]; exact hlc1, hc1c, HNr, by rw [← HF.out]; exact HT2, HK2⟩
  · have hk0 := nd_kids0 Hx.out (by omega)
    have hWz := HW.out
    rw [hk0] at hWz
    obtain ⟨hA, hPA⟩ := WS.zero hWz
    rw [hk] at y0
    have HF : Hid (F ++ (wordT x).data.toList = F ++ txtP (opnS st0 x ++ (PA ++ clsS st0 x))) := hide_ (by rw [hPA, tx_leaf (by omega)])
    have HR' : Hid (L1 = R.length) := hide_ (by rw [← HL1.out, hA]; rfl)
    have HNr : Hid (NRow w0 (some ⟨b, off', none⟩) R) := hide_ (by have := HN'.out; rw [hA] at this; exact this)
    clear hA hPA hk0 hWz hk
    go_wp2
    go_ret
    exact ⟨_, c1, by rw [← HR'.out]; rfl, by rw [← HR'.out]; exact hlc1, hc1c, HNr, by rw [← HF.out]; exact HT2, HK2⟩
  · have hk1 := nd_kids1 Hx.out (by omega)
    obtain ⟨m, hm, hm31⟩ := nd_n Hx.out (by omega)
    have hWz := HW.out
    rw [hk1] at hWz
    obtain ⟨f, z, A1, PA1, hf, hA, hz, hW1, hPA⟩ := ws_one (by omega) (by omega) hWz
    rw [hk] at y0
    have HIH := hide_ (fun w3 HB3 HT3 => IH.out f hf w0 w3 gT gL (d + 1) x.k z A1 R PA1 (some ⟨b, off', none⟩) L1 c1 (F ++ (wordT x).data.toList ++ [60]) hz hW1 (by rw [← HL1.out, hA]; rfl) hlc1 (hide_ (by have := HN'.out; rw [hA] at this; exact this)) HB3 HTab HT3)
    have HF : Hid (F ++ (wordT x).data.toList ++ [60] ++ txtP PA ++ ([44] ++ (dec m ++ [62])) = F ++ txtP (opnS st0 x ++ (PA ++ clsS st0 x))) := hide_ (by rw [tx_list (by omega), hm, Int.toNat_natCast]; simp)
    have HPA := hide_ (congrArg txtP hPA)
    have HIt := hide_ (fun (w4 : World) (h4 : Below w0.heap.size w0 w4) => itoa_any m w4 hm31 (HTab.out.at h4))
    have hms := dec_size m
    have Hds := hide_ (dec_arr m)
    generalize (⟨(dec m).toArray⟩ : ByteArray) = ds at *
    have Hm := hide_ hm
    clear hA hPA hz hW1 hWz hk1 hf hm
    go_wp2_with fail
    refine (add1 HT2 ⟨#[60]⟩ (by decide)).mono ?_; rintro e w3 ⟨rfl, HT3, HK3'⟩
    have HKb3 := hide_ (HK3'.out.2 _ _ _ (by decide) (by decide) (by decide) HKb2.out)
    have HK3 := hide_ (HK2.out.trans HK3'.out)
    have HB3 := hide_ (HB2.out.trans HK3'.out.1)
    clear HT2 HK2 HKb2 HK3' HB2 y0
    go_wp2_with fail
    refine (HIH.out w3 HB3 HT3).mono ?_; rintro e w4 ⟨a4, c4, rfl, hl4, hcc4, HN4, HT4, HK4'⟩
    have HKb4 := hide_ (HK4'.out.2 _ _ _ (by decide) (by decide) (by decide) HKb3.out)
    have HK4 := hide_ (HK3.out.trans HK4'.out)
    have HB4 := hide_ (HB3.out.trans HK4'.out.1)
    rw [← HPA.out] at HT4
    clear HT3 HK3 HKb3 HK4' HB3 HIH
    have y1 := HKb4.out.cell 1
    simp at y1
    rw [Hm.out] at y1
    go_wp2_with fail
    refine (HIt.out w4 HB4.out).mono ?_; rintro e w5 ⟨rfl, hB5⟩
    have HT5 := hide_ (HT4.out.later hB5)
    have HK5 := hide_ (HK4.out.trans (Kp.of_below HT4.out.size hB5))
    clear HT4 HK4 hB5 HIt y1
    go_wp2_with fail
    refine (add3 HT5 ⟨#[44]⟩ ds ⟨#[62]⟩ (by decide) (by omega) (by decide)).mono ?_; rintro e w6 ⟨rfl, HT6, HK6'⟩
    have HK6 := hide_ (HK5.out.trans HK6'.out)
    have HT7 : Hid (Txw w6 w0.heap.size gT gL (F ++ txtP (opnS st0 x ++ (PA ++ clsS st0 x)))) := hide_ (by have := HT6.out; rw [Hds.out] at this; rw [← HF.out]; exact this)
    clear HT6 HK6' HK5 HT5
    go_wp2
    go_ret
    exact ⟨a4, c4, rfl, hl4, by omega, HN4, HT7, HK6⟩
  · have hk1 := nd_kids1 Hx.out (by omega)
    obtain ⟨m, hm, hm31⟩ := nd_n Hx.out (by omega)
    have hWz := HW.out
    rw [hk1] at hWz
    obtain ⟨f, z, A1, PA1, hf, hA, hz, hW1, hPA⟩ := ws_one (by omega) (by omega) hWz
    rw [hk] at y0
    have HIH := hide_ (fun w3 HB3 HT3 => IH.out f hf w0 w3 gT gL (d + 1) x.k z A1 R PA1 (some ⟨b, off', none⟩) L1 c1 (F ++ (wordT x).data.toList ++ [60]) hz hW1 (by rw [← HL1.out, hA]; rfl) hlc1 (hide_ (by have := HN'.out; rw [hA] at this; exact this)) HB3 HTab HT3)
    have HF : Hid (F ++ (wordT x).data.toList ++ [60] ++ txtP PA ++ ([44] ++ (dec m ++ [62])) = F ++ txtP (opnS st0 x ++ (PA ++ clsS st0 x))) := hide_ (by rw [tx_list (by omega), hm, Int.toNat_natCast]; simp)
    have HPA := hide_ (congrArg txtP hPA)
    have HIt := hide_ (fun (w4 : World) (h4 : Below w0.heap.size w0 w4) => itoa_any m w4 hm31 (HTab.out.at h4))
    have hms := dec_size m
    have Hds := hide_ (dec_arr m)
    generalize (⟨(dec m).toArray⟩ : ByteArray) = ds at *
    have Hm := hide_ hm
    clear hA hPA hz hW1 hWz hk1 hf hm
    go_wp2_with fail
    refine (add1 HT2 ⟨#[60]⟩ (by decide)).mono ?_; rintro e w3 ⟨rfl, HT3, HK3'⟩
    have HKb3 := hide_ (HK3'.out.2 _ _ _ (by decide) (by decide) (by decide) HKb2.out)
    have HK3 := hide_ (HK2.out.trans HK3'.out)
    have HB3 := hide_ (HB2.out.trans HK3'.out.1)
    clear HT2 HK2 HKb2 HK3' HB2 y0
    go_wp2_with fail
    refine (HIH.out w3 HB3 HT3).mono ?_; rintro e w4 ⟨a4, c4, rfl, hl4, hcc4, HN4, HT4, HK4'⟩
    have HKb4 := hide_ (HK4'.out.2 _ _ _ (by decide) (by decide) (by decide) HKb3.out)
    have HK4 := hide_ (HK3.out.trans HK4'.out)
    have HB4 := hide_ (HB3.out.trans HK4'.out.1)
    rw [← HPA.out] at HT4
    clear HT3 HK3 HKb3 HK4' HB3 HIH
    have y1 := HKb4.out.cell 1
    simp at y1
    rw [Hm.out] at y1
    go_wp2_with fail
    refine (HIt.out w4 HB4.out).mono ?_; rintro e w5 ⟨rfl, hB5⟩
    have HT5 := hide_ (HT4.out.later hB5)
    have HK5 := hide_ (HK4.out.trans (Kp.of_below HT4.out.size hB5))
    clear HT4 HK4 hB5 HIt y1
    go_wp2_with fail
    refine (add3 HT5 ⟨#[44]⟩ ds ⟨#[62]⟩ (by decide) (by omega) (by decide)).mono ?_; rintro e w6 ⟨rfl, HT6, HK6'⟩
    have HK6 := hide_ (HK5.out.trans HK6'.out)
    have HT7 : Hid (Txw w6 w0.heap.size gT gL (F ++ txtP (opnS st0 x ++ (PA ++ clsS st0 x)))) := hide_ (by have := HT6.out; rw [Hds.out] at this; rw [← HF.out]; exact this)
    clear HT6 HK6' HK5 HT5
    go_wp2
    go_ret
    exact ⟨a4, c4, rfl, hl4, by omega, HN4, HT7, HK6⟩
  · have hk1 := nd_kids1 Hx.out (by omega)
    have hWz := HW.out
    rw [hk1] at hWz
    obtain ⟨f, z, A1, PA1, hf, hA, hz, hW1, hPA⟩ := ws_one (by omega) (by omega) hWz
    rw [hk] at y0
    have HIH := hide_ (fun w3 HB3 HT3 => IH.out f hf w0 w3 gT gL (d + 1) x.k z A1 R PA1 (some ⟨b, off', none⟩) L1 c1 (F ++ (wordT x).data.toList ++ [60]) hz hW1 (by rw [← HL1.out, hA]; rfl) hlc1 (hide_ (by have := HN'.out; rw [hA] at this; exact this)) HB3 HTab HT3)
    have HF : Hid (F ++ (wordT x).data.toList ++ [60] ++ txtP PA ++ [62] = F ++ txtP (opnS st0 x ++ (PA ++ clsS st0 x))) := hide_ (by rw [tx_opt (by omega)]; simp)
    have HPA := hide_ (congrArg txtP hPA)
    clear hA hPA hz hW1 hWz hk1 hf
    go_wp2_with fail
    refine (add1 HT2 ⟨#[60]⟩ (by decide)).mono ?_; rintro e w3 ⟨rfl, HT3, HK3'⟩
    have HK3 := hide_ (HK2.out.trans HK3'.out)
    have HB3 := hide_ (HB2.out.trans HK3'.out.1)
    clear HT2 HK2 HKb2 HK3' HB2 y0
    go_wp2_with fail
    refine (HIH.out w3 HB3 HT3).mono ?_; rintro e w4 ⟨a4, c4, rfl, hl4, hcc4, HN4, HT4, HK4'⟩
    have HK4 := hide_ (HK3.out.trans HK4'.out)
    rw [← HPA.out] at HT4
    clear HT3 HK3 HK4' HB3 HIH
    go_wp2_with fail
    refine (add1 HT4 ⟨#[62]⟩ (by decide)).mono ?_; rintro e w6 ⟨rfl, HT6, HK6'⟩
    have HK6 := hide_ (HK4.out.trans HK6'.out)
    have HT7 : Hid (Txw w6 w0.heap.size gT gL (F ++ txtP (opnS st0 x ++ (PA ++ clsS st0 x)))) := hide_ (by rw [← HF.out]; exact HT6.out)
    clear HT6 HK6' HK4 HT4
    go_wp2
    go_ret
    exact ⟨a4, c4, rfl, hl4, by omega, HN4, HT7, HK6⟩
  · obtain ⟨n, hkn, hn0, hn64⟩ := nd_kidsn Hx.out (by omega)
    have hWz := HW.out
    rw [hkn, Int.toNat_natCast] at hWz
    have HPc := hide_ (HPt.out w0 w2 gT gL (d + 1) n x A R PA (some ⟨b, off', none⟩) L1 c1 (F ++ (wordT x).data.toList) (by omega) hkn hn0 hn64 hWz HL1.out hlc1 HN' HB2 HTab HT2)
    have HF : Hid (F ++ (wordT x).data.toList ++ ([123] ++ (txtP PA ++ [125])) = F ++ txtP (opnS st0 x ++ (PA ++ clsS st0 x))) := hide_ (by rw [tx_parts (by omega)]; simp)
    have u0 := HKb2.out.cell 0; have u1 := HKb2.out.cell 1; have u2 := HKb2.out.cell 2; have u3 := HKb2.out.cell 3; have u4 := HKb2.out.cell 4; have u5 := HKb2.out.cell 5; have u6 := HKb2.out.cell 6
    simp at u0 u1 u2 u3 u4 u5 u6
    rw [hk] at u0 y0
    have HPc2 : Hid (Calls Tryd.prog 27 #[.func (.func 14) #[] #[.pointer (some ⟨gL, 0, none⟩), .pointer (some ⟨gT, 0, none⟩)], .slice (some ⟨b, off', none⟩) L1 c1, .agg #[.int .i64 7, .int .i64 x.n, .string x.name, .string x.label, .int .i64 x.tag, .int .i64 x.kids, .int .i64 x.a]] w2 fun e w' => TyTo w0 w2 gT gL (F ++ (wordT x).data.toList ++ ([123] ++ (txtP PA ++ [125]))) R c1 e w') := by
      have h := HPc
      unfold ndv at h
      rw [hk] at h
      exact h
    clear hkn hWz hk HPc
    go_wp2_with fail
    refine HPc2.out.mono ?_; rintro e w3 ⟨a4, c4, rfl, hl4, hcc4, HN4, HT4, HK4'⟩
    have HK4 := hide_ (HK2.out.trans HK4'.out)
    have HT7 : Hid (Txw w3 w0.heap.size gT gL (F ++ txtP (opnS st0 x ++ (PA ++ clsS st0 x)))) := hide_ (by rw [← HF.out]; exact HT4.out)
    clear HT4 HK4' HPc2 u0 u1 u2 u3 u4 u5 u6 y0
    go_wp2
    go_ret
    exact ⟨a4, c4, rfl, hl4, by omega, HN4, HT7, HK4⟩
  · obtain ⟨n, hkn, hn0, hn64⟩ := nd_kidsn Hx.out (by omega)
    have hWz := HW.out
    rw [hkn, Int.toNat_natCast] at hWz
    have HPc := hide_ (HPt.out w0 w2 gT gL (d + 1) n x A R PA (some ⟨b, off', none⟩) L1 c1 (F ++ (wordT x).data.toList) (by omega) hkn hn0 hn64 hWz HL1.out hlc1 HN' HB2 HTab HT2)
    have HF : Hid (F ++ (wordT x).data.toList ++ ([123] ++ (txtP PA ++ [125])) = F ++ txtP (opnS st0 x ++ (PA ++ clsS st0 x))) := hide_ (by rw [tx_parts (by omega)]; simp)
    have u0 := HKb2.out.cell 0; have u1 := HKb2.out.cell 1; have u2 := HKb2.out.cell 2; have u3 := HKb2.out.cell 3; have u4 := HKb2.out.cell 4; have u5 := HKb2.out.cell 5; have u6 := HKb2.out.cell 6
    simp at u0 u1 u2 u3 u4 u5 u6
    rw [hk] at u0 y0
    have HPc2 : Hid (Calls Tryd.prog 27 #[.func (.func 14) #[] #[.pointer (some ⟨gL, 0, none⟩), .pointer (some ⟨gT, 0, none⟩)], .slice (some ⟨b, off', none⟩) L1 c1, .agg #[.int .i64 8, .int .i64 x.n, .string x.name, .string x.label, .int .i64 x.tag, .int .i64 x.kids, .int .i64 x.a]] w2 fun e w' => TyTo w0 w2 gT gL (F ++ (wordT x).data.toList ++ ([123] ++ (txtP PA ++ [125]))) R c1 e w') := by
      have h := HPc
      unfold ndv at h
      rw [hk] at h
      exact h
    clear hkn hWz hk HPc
    go_wp2_with fail
    refine HPc2.out.mono ?_; rintro e w3 ⟨a4, c4, rfl, hl4, hcc4, HN4, HT4, HK4'⟩
    have HK4 := hide_ (HK2.out.trans HK4'.out)
    have HT7 : Hid (Txw w3 w0.heap.size gT gL (F ++ txtP (opnS st0 x ++ (PA ++ clsS st0 x)))) := hide_ (by rw [← HF.out]; exact HT4.out)
    clear HT4 HK4' HPc2 u0 u1 u2 u3 u4 u5 u6 y0
    go_wp2
    go_ret
    exact ⟨a4, c4, rfl, hl4, by omega, HN4, HT7, HK4⟩
  · have hk0 := nd_kids0 Hx.out (by omega)
    have hWz := HW.out
    rw [hk0] at hWz
    obtain ⟨hA, hPA⟩ := WS.zero hWz
    rw [hk] at y0
    have HF : Hid (F ++ (wordT x).data.toList = F ++ txtP (opnS st0 x ++ (PA ++ clsS st0 x))) := hide_ (by rw [hPA, tx_leaf (by omega)])
    have HR' : Hid (L1 = R.length) := hide_ (by rw [← HL1.out, hA]; rfl)
    have HNr : Hid (NRow w0 (some ⟨b, off', none⟩) R) := hide_ (by have := HN'.out; rw [hA] at this; exact this)
    clear hA hPA hk0 hWz hk
    go_wp2
    go_ret
    exact ⟨_, c1, by rw [← HR'.out]; rfl, by rw [← HR'.out]; exact hlc1, hc1c, HNr, by rw [← HF.out]; exact HT2, HK2⟩
end Go.Proofs.YtafljgjkcnbhbaaDoor

/- addParts. -/
namespace Go.Proofs.YtafljgjkcnbhbaaDoor
open Go.RowKit
set_option linter.unusedVariables false

theorem bef_succ (i : Nat) : (⟨#[44]⟩ : ByteArray) = bef (i + 1) := by unfold bef; rw [if_neg (by omega)]
theorem hd_size {k : Int} {z : Nd} {d : Nat} (h : ndE z k d = 0) (hk : k = 7 ∨ k = 8) : (hdX k z).size ≤ 100 := by
  unfold hdX
  rcases hk with rfl | rfl
  · rw [if_pos rfl]; have := dec_size z.tag.toNat; omega
  · rw [if_neg (by decide)]
    have hn : isName z.label = true := (nd_ok h).2.2.2.1
    obtain ⟨_, h2, _⟩ := of_decide_eq_true hn
    omega
theorem head_any {k : Int} {z : Nd} {d : Nat} (h : ndE z k d = 0) (hk : k = 7 ∨ k = 8) (w : World) (ht : Tab w.heap.size w) : Calls Tryd.prog 44 #[ndv z, .int .i64 k] w fun e w' => e = .returned (.string (hdX k z)) ∧ Below w.heap.size w w' := by
  unfold hdX
  rcases hk with rfl | rfl
  · have h3 := of_decide_eq_true (nd_tag h)
    rw [if_pos rfl]
    exact head7 z z.tag.toNat (by omega) (by omega) w (hide_ ht)
  · rw [if_neg (by decide)]
    exact head8 z w
set_option maxRecDepth 100000 in
set_option maxHeartbeats 8000000 in
theorem pt_step (fu : Nat) (IH : Hid (∀ f, f < fu → TyOk f)) : PtOk fu := by
  intro w0 w gT gL d n x A R PA a L cap F hok hkn hn0 hn64 hW hL hc HR HB0 HTab HT
  have HS0 := hide_ (PtR.start F hn0 hW)
  obtain ⟨T, hT⟩ : ∃ T, F ++ ([123] ++ txtP PA) = T := ⟨_, rfl⟩
  have HTT := hide_ hT
  rw [hT] at HS0
  have HL := hide_ hL
  have Hkn := hide_ hkn
  clear hT hW hL hkn
  have Hok := hide_ hok
  clear hok
  obtain ⟨wA, hwA⟩ : ∃ wA, wA = w.alloc (.cells #[.int .i64 x.k, .int .i64 x.n, .string x.name, .string x.label, .int .i64 x.tag, .int .i64 x.kids, .int .i64 x.a] 38) := ⟨_, rfl⟩
  have KA : Blk wA w.heap.size 38 [.int .i64 x.k, .int .i64 x.n, .string x.name, .string x.label, .int .i64 x.tag, .int .i64 x.kids, .int .i64 x.a] := by rw [hwA]; exact Blk.newA w #[.int .i64 x.k, .int .i64 x.n, .string x.name, .string x.label, .int .i64 x.tag, .int .i64 x.kids, .int .i64 x.a] 38
  have hBA : Below w.heap.size w wA := by rw [hwA]; exact (Below.refl _ _).alloc (Nat.le_refl _) _
  have HTA := hide_ (HT.out.later hBA)
  have HKA := hide_ (Kp.of_below HB0.out.size hBA)
  have HKb := hide_ KA
  clear KA hBA HT
  have hkk : ∃ kk : Int, x.k = kk := ⟨_, rfl⟩
  unfold ndv
  go_enter Tryd.func27, Tryd.ntmps27
  go_upto_region 1 with fail
  rw [← hwA]
  clear hwA
  have y5 := HKb.out.cell 5
  simp at y5
  rw [Hkn.out] at y5
  go_wp2_with fail
  clear y5
  go_loopw [1, 7, 10] (fun x1 x7 x10 wr => ∃ (i : Nat) (Rm : List Nd) (a' : Option Addr) (l' c' : Nat) (Fi : List UInt8) (bs : ByteArray), i ≤ n ∧ x10 = .int .i64 (i : Int) ∧ x7 = .string bs ∧ x1 = .slice a' l' c' ∧ l' ≤ c' ∧ c' ≤ cap ∧ Hid ((Rm ++ R).length = l') ∧ Hid (bs = bef i) ∧ Hid (NRow w0 a' (Rm ++ R)) ∧ Hid (PtR x.k d fu n T i Rm Fi) ∧ Hid (Txw wr w0.heap.size gT gL Fi) ∧ Hid (Kp w0.heap.size w wr) ∧ Hid (Blk wr w.heap.size 38 [.int .i64 x.k, .int .i64 x.n, .string x.name, .string x.label, .int .i64 x.tag, .int .i64 x.kids, .int .i64 x.a])) (fun _ _ x10 _ => n - (intOf x10).toNat)
  case atStart => exact ⟨0, A, a, L, cap, F, ⟨#[123]⟩, Nat.zero_le _, rfl, rfl, rfl, hc, Nat.le_refl _, HL, hide_ rfl, HR, HS0, HTA, HKA, HKb⟩
  case round =>
    clear HS0 HTA HKA HKb HR HL
    obtain ⟨i, Rm, a', l', c', Fi, bs, hi, rfl, rfl, rfl, hlc, hcc, HL, Hbs, HR, HS, HT, HK, HKb⟩ := hrel
    generalize wr = wq at *
    have HB1 := hide_ (HB0.out.trans HK.out.1)
    by_cases hlt : i < n
    · have hlt' : (i : Int) < n := by omega
      obtain ⟨f, z, A1, B1, PA1, hf, hRm, hz, hW1, hS2⟩ := HS.out.step Hok.out hlt
      subst hRm
      have hbsz : bs.size = 1 := by rw [Hbs.out]; exact bef_size i
      have hhs := hd_size hz Hok.out
      have HHd := hide_ (fun (w4 : World) (h4 : Below w0.heap.size w0 w4) => head_any hz Hok.out w4 (HTab.out.at h4))
      have HS2 := hide_ hS2
      have Hz := hide_ hz
      have HW1 := hide_ hW1
      have Hf := hide_ hf
      clear hS2 hz hW1 hf HS
      generalize hdX x.k z = hs at *
      have hl0 : 0 < l' := by rw [← HL.out]; simp
      obtain ⟨b, off, rfl, hb, hcell⟩ := HR.out.open (by simp)
      have g := fun j hj => (HB1.out.cell (p := ⟨b, off + 0 * 7 + j, none⟩) hb).trans (hcell 0 z (by simp) j hj)
      have n0 := g 0 (by decide); have n1 := g 1 (by decide); have n2 := g 2 (by decide); have n3 := g 3 (by decide); have n4 := g 4 (by decide); have n5 := g 5 (by decide); have n6 := g 6 (by decide)
      simp [ndc] at n0 n1 n2 n3 n4 n5 n6
      have y0 := HKb.out.cell 0
      simp at y0
      have HHq := hide_ (HHd.out wq HB1.out)
      clear hcell g
      go_upto_region 4 with fail
      have HTd : Hid (Txw wq.drew w0.heap.size gT gL Fi) := hide_ (HT.out.later ((Below.refl _ _).drew))
      have HBd : Hid (Below w0.heap.size w0 wq.drew) := hide_ HB1.out.drew
      have HNx : Hid (NRow w0 (some ⟨b, off, none⟩) (z :: (A1 ++ (B1 ++ R)))) := hide_ (by have := HR.out; simpa using this)
      have HLx : Hid ((z :: (A1 ++ (B1 ++ R))).length = l') := hide_ (by rw [← HL.out]; simp)
      clear HR HL
      go_region_with (first | (go_at_call 44; refine (HHd.out _ HBd.out).mono ?_; rintro e w2 ⟨rfl, hB2⟩; (have HT2 := hide_ (HTd.out.later hB2)); (have HB2 := hide_ hB2); (clear hB2)) | (go_at_call 14; refine (add3 HT2 bs hs ⟨#[58]⟩ (by omega) (by omega) (by decide)).mono ?_; rintro e w3 ⟨rfl, HT3, HK3⟩))
      all_goals
        have HBq2 : Hid (Below wq.heap.size wq w2) := hide_ (((Below.refl _ _).drew).trans HB2.out)
        have HKq2 := hide_ (HK.out.trans (Kp.of_below HT.out.size HBq2.out))
        have HK3' := hide_ (HKq2.out.trans HK3.out)
        have HB3 := hide_ (HB0.out.trans HK3'.out.1)
        have HKb3 := hide_ (HK3.out.2 _ _ _ (by decide) (by decide) (by decide) (HKb.out.later HBq2.out))
        have HIH := hide_ (IH.out f Hf.out w0 w3 gT gL d x.k z A1 (B1 ++ R) PA1 (some ⟨b, off, none⟩) l' c' _ Hz.out HW1.out HLx.out hlc HNx HB3 HTab HT3)
        clear HHd HHq HTd HBd HT2 HB2 HBq2 HKq2 HK3 HT3 HT HK HKb n0 n1 n2 n3 n4 n5 n6 y0 HB1
        go_wp2_with fail
        refine HIH.out.mono ?_; rintro e w4 ⟨a4, c4, rfl, hl4, hcc4, HN4, HT4, HK4⟩
        have HK5 := hide_ (HK3'.out.trans HK4.out)
        have HKb5 := hide_ (HK4.out.2 _ _ _ (by decide) (by decide) (by decide) HKb3.out)
        have HS3 : Hid (PtR x.k d fu n T (i + 1) B1 (Fi ++ (bs.data.toList ++ (hs.data.toList ++ (⟨#[58]⟩ : ByteArray).data.toList)) ++ txtP (opnS st0 z ++ (PA1 ++ clsS st0 z)))) := hide_ (by rw [Hbs.out]; exact HS2.out)
        clear HIH HK3' HKb3 HK4 HS2
        go_wp2
        go_roundw
        case rel => exact ⟨i + 1, B1, a4, _, c4, _, ⟨#[44]⟩, by omega, by go_num, rfl, rfl, by have := hl4; rw [List.length_append] at this; exact this, by omega, hide_ (by rw [List.length_append]), hide_ (bef_succ i), HN4, HS3, HT4, HK5, HKb5⟩
        case measure => simp [intOf]; omega
    · obtain rfl : i = n := by omega
      obtain ⟨hFi, hRm⟩ := HS.out.done
      subst hFi hRm
      have HL2 : Hid (R.length = l') := hide_ (by have := HL.out; simpa using this)
      clear HS
      go_wp2_with fail
      refine (add1 HT ⟨#[125]⟩ (by decide)).mono ?_; rintro e w2 ⟨rfl, HT2, HK2'⟩
      have HK2 := hide_ (HK.out.trans HK2'.out)
      have HT3 : Hid (Txw w2 w0.heap.size gT gL (F ++ ([123] ++ (txtP PA ++ [125])))) := hide_ (by
        have h := HT2.out
        rw [← HTT.out] at h
        have e : F ++ ([123] ++ txtP PA) ++ (⟨#[125]⟩ : ByteArray).data.toList = F ++ ([123] ++ (txtP PA ++ [125])) := by simp
        rw [e] at h
        exact h)
      clear HT HT2 HK HK2'
      go_wp2
      go_ret
      exact ⟨a', c', by rw [HL2.out]; rfl, by rw [HL2.out]; exact hlc, hcc, hide_ (by have := HR.out; simpa using this), HT3, HK2⟩
end Go.Proofs.YtafljgjkcnbhbaaDoor

/- Print: what it answers; its walk. -/
namespace Go.Proofs.YtafljgjkcnbhbaaDoor
open Go.RowKit
set_option linter.unusedVariables false

theorem pt_any (fu : Nat) (IH : ∀ f, f < fu → TyOk f) : PtOk fu := pt_step fu (hide_ IH)
theorem ty_any (fu : Nat) : TyOk fu := Nat.strongRecOn fu (fun f ih => ty_step f (hide_ ih) (hide_ (pt_any f ih)))
/-- The text of a source, or the error. -/
def PrT (D : List Df) (X : ByteArray) (c : Int) : Prop :=
  ((ckP D).2.2 ≠ 0 ∧ X = ⟨#[]⟩ ∧ c = (ckP D).2.2) ∨ ((ckP D).2.2 = 0 ∧ ∃ P, WDS st0 D P ∧ ((65536 < (txtP P).length ∧ X = ⟨#[]⟩ ∧ c = 4) ∨ ((txtP P).length ≤ 65536 ∧ X = ⟨(txtP P).toArray⟩ ∧ c = 0)))
/-- Definitions one by one. -/
def DpR (D : List Df) (T : List UInt8) (i : Nat) (Fi : List UInt8) : Prop := ∃ P, WDS st0 (D.drop i) P ∧ Fi ++ txtP P = T
theorem DpR.done {D : List Df} {T Fi : List UInt8} (h : DpR D T D.length Fi) : Fi = T := by
  obtain ⟨P, h1, h2⟩ := h
  rw [List.drop_length] at h1
  have h1' : P = [] := h1
  subst h1'
  simpa [txtP] using h2
theorem DpR.step {D : List Df} {T Fi : List UInt8} {i : Nat} {d : Df} (h : DpR D T i Fi) (hd : D[i]? = some d) : ∃ f z A1 PA, d.ty = z :: (A1 ++ []) ∧ ndE z 0 0 = 0 ∧ WS st0 f 1 z.k z.kids.toNat A1 PA ∧
    DpR D T (i + 1) (Fi ++ ((⟨#[116, 121, 112, 101, 32]⟩ : ByteArray).data.toList ++ (d.name.data.toList ++ (⟨#[61]⟩ : ByteArray).data.toList)) ++ txtP (opnS st0 z ++ (PA ++ clsS st0 z)) ++ (⟨#[59]⟩ : ByteArray).data.toList) := by
  obtain ⟨P, h1, h2⟩ := h
  obtain ⟨hi, hdi⟩ := List.getElem?_eq_some_iff.1 hd
  rw [List.drop_eq_getElem_cons hi, hdi] at h1
  obtain ⟨PN, PD, hN, hD, rfl⟩ := h1
  obtain ⟨f, z, A1, PA, hf, hA, hz, hW, rfl⟩ := ws_one (by decide) (by decide) hN
  refine ⟨f, z, A1, PA, by rw [hA]; simp, hz, hW, PD, hD, ?_⟩
  rw [← h2]
  simp [txtP, txtP_app, wbw, wbm, st0]
set_option maxRecDepth 100000 in
set_option maxHeartbeats 8000000 in
theorem print_any (a : Option Addr) (c n : Nat) (D : List Df) (w : World) (hn : D.length = n) (hL : Lens D) (r : Hid (DRow w a D)) (ht : Hid (Tab w.heap.size w)) :
    Calls Tryd.prog 7 #[.agg #[.slice a n c]] w fun e w' => ∃ X k, e = .returned (.tuple #[.string X, .int .i64 k]) ∧ Hid (PrT D X k) ∧ Hid (Below w.heap.size w w') := by
  have hn63 : n ≤ 9223372036854775807 := by rw [← hn]; exact hL.1
  obtain ⟨wA, hwA⟩ : ∃ wA, wA = w.alloc (.cells #[.slice a n c] 24) := ⟨_, rfl⟩
  have KA : Blk wA w.heap.size 24 [.slice a n c] := by rw [hwA]; exact Blk.newA w #[.slice a n c] 24
  have hBA : Below w.heap.size w wA := by rw [hwA]; exact (Below.refl _ _).alloc (Nat.le_refl _) _
  have HCk := hide_ (check_any a c D wA (hide_ hL) (hide_ (r.out.later hBA)))
  rw [hn] at HCk
  have HKA := hide_ KA
  have HBA := hide_ hBA
  have Hn := hide_ hn
  have HLn := hide_ hL
  clear KA hBA hn hL
  have hmf : ∀ (fn : Fn) (first cap : Array Value) (w : World), (Instr.makeFunc fn first cap).run Tryd.prog w = .ok (.func fn first cap) w := fun _ _ _ _ => rfl
  go_enter Tryd.func7, Tryd.ntmps7
  go_upto_region 1 with fail
  rw [← hwA]
  clear hwA
  have x0 := HKA.out.cell 0
  simp at x0
  go_wp2_with fail
  refine HCk.out.mono ?_; rintro e w1 ⟨rfl, hB1⟩
  have HB1 := hide_ (HBA.out.trans (hB1.mono HBA.out.size))
  have HK1 := hide_ (HKA.out.later hB1)
  clear hB1 HKA HBA HCk x0
  obtain ⟨E, hE⟩ : ∃ E, (ckP D).2.2 = E := ⟨_, rfl⟩
  have HE := hide_ hE
  rw [hE]
  clear hE
  by_cases hE0 : E = 0
  · subst hE0
    obtain ⟨hD256, hall⟩ := ckP_all HE.out
    obtain ⟨P, hP⟩ := wds_of st0 D hall
    have Hall := hide_ hall
    have HP := hide_ hP
    have HS0 : Hid (DpR D (txtP P) 0 []) := hide_ ⟨P, hP, rfl⟩
    obtain ⟨T, hT⟩ : ∃ T, txtP P = T := ⟨_, rfl⟩
    rw [hT] at HS0
    have HTT := hide_ hT
    clear hT hP hall hD256
    obtain ⟨w2, hw2⟩ : ∃ w2, w2 = (w1.alloc (.cells #[.slice none 0 0] 44)).alloc (.cells #[.bool false] 4) := ⟨_, rfl⟩
    have q1 : Blk w2 w1.heap.size 44 [.slice none 0 0] := by rw [hw2]; exact (Blk.newA w1 #[.slice none 0 0] 44).alloc _
    have q2 : Blk w2 (w1.heap.size + 1) 4 [.bool false] := by rw [hw2]; have h := Blk.newA (w1.alloc (.cells #[.slice none 0 0] 44)) #[.bool false] 4; simpa using h
    have hB2 : Below w1.heap.size w1 w2 := by rw [hw2]; exact below2 w1 _ _
    obtain ⟨gT, hgT⟩ : ∃ gT, w1.heap.size = gT := ⟨_, rfl⟩
    obtain ⟨gL, hgL⟩ : ∃ gL, w1.heap.size + 1 = gL := ⟨_, rfl⟩
    have HT2 : Hid (Txw w2 w.heap.size gT gL []) := hide_ ⟨by rw [← hgT]; exact HB1.out.size, by rw [← hgL]; exact Nat.le_succ_of_le HB1.out.size, _, [], false, by rw [← hgT]; exact q1, BR.nil _ _, by rw [← hgL]; exact q2, by decide, .inl ⟨rfl, rfl⟩⟩
    have HB2 := hide_ (HB1.out.trans (hB2.mono HB1.out.size))
    have HK2 := hide_ (HK1.out.later hB2)
    have HKp2 := hide_ (Kp.of_below (Nat.le_refl _) HB2.out)
    have HgT := hide_ hgT
    have HgL := hide_ hgL
    clear q1 q2 hB2 HB1 HK1 hgT hgL
    go_upto_region 7 with fail
    rw [← hw2]
    rw [HgL.out, HgT.out]
    clear hw2 HgT HgL hmf
    have x0 := HK2.out.cell 0
    simp at x0
    go_wp2_with fail
    clear x0 HK2 HB2
    go_loopw [25] (fun x25 wr => ∃ (i : Nat) (Fi : List UInt8), i ≤ n ∧ x25 = .int .i64 (i : Int) ∧ Hid (DpR D T i Fi) ∧ Hid (Txw wr w.heap.size gT gL Fi) ∧ Hid (Kp w.heap.size w wr)) (fun x25 _ => n - (intOf x25).toNat)
    case atStart => exact ⟨0, [], Nat.zero_le _, rfl, HS0, HT2, HKp2⟩
    case round =>
      clear HS0 HT2 HKp2
      obtain ⟨i, Fi, hi, rfl, HS, HT, HKp⟩ := hrel
      generalize wr = wq at *
      by_cases hlt : i < n
      · have hlt' : (i : Int) < n := by omega
        have hd : D[i]? = some (D[i]'(by rw [Hn.out]; exact hlt)) := List.getElem?_eq_getElem _
        have hmem := List.getElem_mem (l := D) (n := i) (by rw [Hn.out]; exact hlt)
        generalize D[i]'(by rw [Hn.out]; exact hlt) = d at *
        have hnm := (Hall.out d hmem).1
        have hnsz : d.name.size ≤ 100 := by obtain ⟨_, h2, _⟩ := of_decide_eq_true hnm; omega
        obtain ⟨f, z, A1, PA, hty, hz, hW, hS2⟩ := HS.out.step hd
        obtain ⟨b, off, rfl, hb, hcell⟩ := r.out.open (by rw [Hn.out]; omega)
        obtain ⟨va, vc, hcs, hvc, -, hN⟩ := hcell i d hd
        have g := fun j hj => (HKp.out.1.cell (p := ⟨b, off + i * 3 + j, none⟩) hb).trans (hcs j hj)
        have p0 : wq.cell? ⟨b, off + i * 3, none⟩ = some (.string d.name) := g 0 (by decide)
        have p1 : wq.cell? ⟨b, off + i * 3 + 1, none⟩ = some (.int .i64 d.a) := g 1 (by decide)
        have p2 : wq.cell? ⟨b, off + i * 3 + 2, none⟩ = some (.slice va d.ty.length vc) := g 2 (by decide)
        have hTy := fun (w3 : World) F3 HB3 HT3 => ty_any f w w3 gT gL 0 0 z A1 [] PA va d.ty.length vc F3 hz hW (by rw [hty]) hvc (hide_ (by rw [← hty]; exact hN)) HB3 ht HT3
        have HTy := hide_ hTy
        have HS2 := hide_ hS2
        clear hTy hS2 hz hW hty hcs hN g hcell hd hmem hnm HS
        obtain ⟨wz, hwz⟩ : ∃ wz, wz = wq.alloc (.cells #[.string d.name, .int .i64 d.a, .slice va d.ty.length vc] 41) := ⟨_, rfl⟩
        have kz : Blk wz wq.heap.size 41 [.string d.name, .int .i64 d.a, .slice va d.ty.length vc] := by rw [hwz]; exact Blk.newA wq #[.string d.name, .int .i64 d.a, .slice va d.ty.length vc] 41
        have hBz : Below wq.heap.size wq wz := by rw [hwz]; exact (Below.refl _ _).alloc (Nat.le_refl _) _
        have HTz := hide_ (HT.out.later hBz)
        have HKz := hide_ (HKp.out.trans (Kp.of_below HT.out.size hBz))
        have HBz := hide_ kz
        clear kz hBz HT HKp
        go_upto_region 10 with fail
        rw [← hwz]
        clear hwz p0 p1 p2
        have u0 := HBz.out.cell 0
        simp at u0
        go_wp2_with fail
        refine (add3 HTz ⟨#[116, 121, 112, 101, 32]⟩ d.name ⟨#[61]⟩ (by decide) (by omega) (by decide)).mono ?_; rintro e w3 ⟨rfl, HT3, HK3'⟩
        have HK3 := hide_ (HKz.out.trans HK3'.out)
        have HB3 := hide_ (HK3'.out.2 _ _ _ (by decide) (by decide) (by decide) HBz.out)
        clear u0 HTz HKz HK3' HBz
        have u2 := HB3.out.cell 2
        simp at u2
        go_wp2_with fail
        refine (HTy.out w3 _ (hide_ HK3.out.1) HT3).mono ?_; rintro e w4 ⟨a4, c4, rfl, -, -, -, HT4, HK4'⟩
        have HK4 := hide_ (HK3.out.trans HK4'.out)
        clear u2 HK3 HB3 HK4' HTy HT3
        go_wp2_with fail
        refine (add1 HT4 ⟨#[59]⟩ (by decide)).mono ?_; rintro e w5 ⟨rfl, HT5, HK5'⟩
        have HK5 := hide_ (HK4.out.trans HK5'.out)
        clear HT4 HK4 HK5'
        go_wp2
        go_roundw
        case rel => exact ⟨i + 1, _, by omega, by go_num, HS2, HT5, HK5⟩
        case measure => simp [intOf]; omega
      · obtain rfl : i = n := by omega
        have hFT : Fi = T := DpR.done (by rw [Hn.out]; exact HS.out)
        subst hFT
        have HBf := hide_ HKp.out.1
        obtain ⟨h1, h2, vb, bb, lg, k1, k2, k3, hb6, hor⟩ := HT.out
        have c1 := k1.cell 0
        have c3 := k3.cell 0
        simp at c1 c3
        obtain ⟨a2, cap2, hv, hcv⟩ := k2.conv
        subst hv
        clear HS HT HKp k1 k2 k3
        rcases hor with ⟨rfl, hbF⟩ | ⟨rfl, hF⟩
        · have Hpr : Hid (PrT D ⟨bb.toArray⟩ 0) := hide_ (.inr ⟨HE.out, P, HP.out, .inr ⟨by rw [HTT.out, ← hbF]; exact hb6, by rw [HTT.out, ← hbF], rfl⟩⟩)
          clear hbF
          go_wp2
          go_ret2
          exact ⟨_, _, rfl, Hpr, HBf⟩
        · have Hpr : Hid (PrT D ⟨#[]⟩ 4) := hide_ (.inr ⟨HE.out, P, HP.out, .inl ⟨by rw [HTT.out]; exact hF, rfl, rfl⟩⟩)
          clear hF
          go_wp2
          go_ret2
          exact ⟨_, _, rfl, Hpr, HBf⟩
  · have Hpr : Hid (PrT D ⟨#[]⟩ E) := hide_ (.inl ⟨by rw [HE.out]; exact hE0, rfl, HE.out.symm⟩)
    go_wp2
    go_ret2
    exact ⟨_, _, rfl, Hpr, HB1⟩
end Go.Proofs.YtafljgjkcnbhbaaDoor

/- behind: the place behind an expression, in the document's answer for show. -/
namespace Go.Proofs.YtafljgjkcnbhbaaDoor
open Go.RowKit
set_option linter.unusedVariables false

theorem ws_next {st : Sty} {fu d n : Nat} {k : Int} {A : List Nd} {P : List (Q × List UInt8)} (h : WS st fu d k (n + 1) A P) : ∃ f z A1 B1 PA PB, f < fu ∧ A = z :: (A1 ++ B1) ∧ ndE z k d = 0 ∧ WS st f (d + 1) z.k z.kids.toNat A1 PA ∧ WS st f d k n B1 PB := by
  cases fu with
  | zero => exact absurd h.1 (by omega)
  | succ f =>
    obtain ⟨x, A1, B, PA, PB, e, h2, hA, hB, _⟩ := h
    exact ⟨f, x, A1, B, PA, PB, Nat.lt_succ_self _, e, h2, hA, hB⟩
/-- So many kids of a node are passed; so many nodes stand ahead of the next. -/
def KdR (st : Sty) (fu d n : Nat) (k : Int) (Ls R : List Nd) (E i p : Nat) : Prop := ∃ f A P, f ≤ fu ∧ WS st f d k (n - i) A P ∧ Ls.drop p = A ++ R ∧ p + A.length = E
theorem KdR.step {st : Sty} {fu d n E i p : Nat} {k : Int} {Ls R : List Nd} (h : KdR st fu d n k Ls R E i p) (hi : i < n) : ∃ f z A1 R1 PA, f < fu ∧ ndE z k d = 0 ∧ WS st f (d + 1) z.k z.kids.toNat A1 PA ∧ Ls.drop p = z :: (A1 ++ R1) ∧ KdR st fu d n k Ls R E (i + 1) (p + 1 + A1.length) := by
  obtain ⟨f, A, P, hf, hW, hd, hE⟩ := h
  obtain ⟨r, hr⟩ : ∃ r, n - i = r + 1 := ⟨n - i - 1, by omega⟩
  rw [hr] at hW
  obtain ⟨f', z, A1, B1, PA, PB, h1, rfl, h3, h4, h5⟩ := ws_next hW
  refine ⟨f', z, A1, B1 ++ R, PA, by omega, h3, h4, by rw [hd]; simp, f', B1, PB, by omega, by rw [show n - (i + 1) = r by omega]; exact h5, ?_, by simp at hE; omega⟩
  have e : Ls.drop (p + 1 + A1.length) = (Ls.drop p).drop (1 + A1.length) := by rw [List.drop_drop]; congr 1; omega
  rw [e, hd, Nat.add_comm 1]
  simp
theorem KdR.done {st : Sty} {fu d n E p : Nat} {k : Int} {Ls R : List Nd} (h : KdR st fu d n k Ls R E n p) : p = E := by
  obtain ⟨f, A, P, hf, hW, hd, hE⟩ := h
  rw [Nat.sub_self] at hW
  obtain ⟨rfl, _⟩ := hW.zero
  simpa using hE
theorem at_drop {α : Type} {L R : List α} {i : Nat} {x : α} (h : L.drop i = x :: R) : L[i]? = some x ∧ i < L.length := by
  have h1 : i < L.length := by
    rcases Nat.lt_or_ge i L.length with h0 | h0
    · exact h0
    · rw [List.drop_eq_nil_of_le h0] at h; cases h
  have h2 := List.drop_eq_getElem_cons h1
  rw [h] at h2
  injection h2 with h2
  exact ⟨by rw [List.getElem?_eq_getElem h1, ← h2], h1⟩
def BhOk (fu : Nat) : Prop := ∀ (w : World) (Ls A R : List Nd) (x : Nd) (d : Nat) (k : Int) (PA : List (Q × List UInt8)) (a : Option Addr) (L c i : Nat), ndE x k d = 0 → WS st0 fu (d + 1) x.k x.kids.toNat A PA → Ls.length = L → L ≤ 9223372036854775807 → Ls.drop i = x :: (A ++ R) →
  Hid (NRow w a Ls) → Calls Tryd.prog 32 #[.slice a L c, .int .i64 (i : Int)] w fun e w' => e = .returned (.int .i64 ((i + 1 + A.length : Nat) : Int)) ∧ Below w.heap.size w w'
set_option maxRecDepth 100000 in
set_option maxHeartbeats 8000000 in
theorem bh_step (fu : Nat) (IH : Hid (∀ f, f < fu → BhOk f)) : BhOk fu := by
  intro w Ls A R x d k PA a L c i hx hW hL hL63 hd HR
  obtain ⟨hxi, hiL⟩ := at_drop hd
  rw [hL] at hiL
  obtain ⟨n, hn⟩ : ∃ n : Nat, x.kids = (n : Int) := ⟨x.kids.toNat, by have := ndE_kids hx; omega⟩
  have hnt : x.kids.toNat = n := by omega
  have hn64 : n ≤ 64 := by have := ndE_kids hx; omega
  rw [hnt] at hW
  have hd0 : Ls.drop (i + 1) = A ++ R := by
    have e : Ls.drop (i + 1) = (Ls.drop i).drop 1 := by rw [List.drop_drop]
    rw [e, hd]
    rfl
  have HS0 : Hid (KdR st0 fu (d + 1) n x.k Ls R (i + 1 + A.length) 0 (i + 1)) := hide_ ⟨fu, A, PA, Nat.le_refl _, hW, hd0, rfl⟩
  clear hd0
  have hlen : i + 1 + A.length ≤ L := by have h := congrArg List.length hd; simp at h; omega
  obtain ⟨E, hE⟩ : ∃ E, i + 1 + A.length = E := ⟨_, rfl⟩
  rw [hE] at HS0 hlen ⊢
  clear hE hW hnt hd
  obtain ⟨b, off, rfl, hb, hcell⟩ := HR.out.open (by omega)
  have n5 := hcell i x hxi 5 (by decide)
  simp [ndc] at n5
  rw [hn] at n5
  have HN5 := hide_ n5
  have HHb := hide_ hb
  have HLs := hide_ hL
  clear hcell n5 hb hL hxi hx
  have HB0 : Hid (Below w.heap.size w w) := hide_ (Below.refl _ _)
  go_enter Tryd.func32, Tryd.ntmps32
  go_wp2_with fail
  go_loopw [5, 6] (fun x5 x6 wr => ∃ (j p : Nat), j ≤ n ∧ p ≤ L ∧ x5 = .int .i64 (p : Int) ∧ x6 = .int .i64 (j : Int) ∧ Hid (KdR st0 fu (d + 1) n x.k Ls R E j p) ∧ Hid (Below w.heap.size w wr)) (fun _ x6 _ => n - (intOf x6).toNat)
  case atStart => exact ⟨0, i + 1, Nat.zero_le _, by omega, by go_num, rfl, HS0, HB0⟩
  case round =>
    clear HS0 HB0
    obtain ⟨j, p, hj, hp, rfl, rfl, HS, HB⟩ := hrel
    generalize wr = wq at *
    have y5 := (HB.out.cell (p := ⟨b, off + i * 7 + 5, none⟩) HHb.out).trans HN5.out
    by_cases hlt : j < n
    · have hlt' : (j : Int) < n := by omega
      obtain ⟨f, z, A1, R1, PA1, hf, hz, hW1, hd1, hS2⟩ := HS.out.step hlt
      have hp2 : p + 1 + A1.length ≤ L := by have h := congrArg List.length hd1; have := HLs.out; have := at_drop hd1; simp at h; omega
      have HIH := hide_ (IH.out f hf wq Ls A1 R1 z (d + 1) x.k PA1 (some ⟨b, off, none⟩) L c p hz hW1 HLs.out hL63 hd1 (hide_ (HR.out.later HB.out)))
      have HS2 := hide_ hS2
      clear hS2 hz hW1 hf hd1 HS
      go_wp2_with fail
      refine HIH.out.mono ?_; rintro e w2 ⟨rfl, hB2⟩
      have HB2 := hide_ (HB.out.trans (hB2.mono HB.out.size))
      clear HIH hB2 y5
      go_wp2
      go_roundw
      case rel => exact ⟨j + 1, _, by omega, hp2, rfl, by go_num, HS2, HB2⟩
      case measure => simp [intOf]; omega
    · obtain rfl : j = n := by omega
      have hpE := HS.out.done
      clear HS
      go_wp2
      go_ret
      subst hpE
      exact ⟨rfl, HB.out⟩
theorem behind_any (fu : Nat) : BhOk fu := Nat.strongRecOn fu (fun f ih => bh_step f (hide_ ih))
end Go.Proofs.YtafljgjkcnbhbaaDoor

/- form, in the document's answer for show: what it is held to; leaves. -/
namespace Go.Proofs.YtafljgjkcnbhbaaDoor
open Go.RowKit
set_option linter.unusedVariables false

theorem catD (a b : ByteArray) : (a ++ b).data.toList = a.data.toList ++ b.data.toList := by simp [ByteArray.data_append]
theorem ba_of {s : ByteArray} {l : List UInt8} (h : s.data.toList = l) : s = ⟨l.toArray⟩ := by
  apply ByteArray.ext
  apply Array.toList_inj.1
  simpa using h
/-- The text of an expression. -/
def fT (x : Nd) (P : List (Q × List UInt8)) : ByteArray := ⟨(txtP (opnS st0 x ++ (P ++ clsS st0 x))).toArray⟩
theorem fT_list (x : Nd) (P : List (Q × List UInt8)) : (fT x P).data.toList = txtP (opnS st0 x ++ (P ++ clsS st0 x)) := by simp [fT]
theorem nodeT_len {x : Nd} {k : Int} {d f : Nat} {A : List Nd} {PA : List (Q × List UInt8)} (hx : ndE x k d = 0) (hW : WS st0 f (d + 1) x.k x.kids.toNat A PA) : (txtP (opnS st0 x ++ (PA ++ clsS st0 x))).length ≤ 130 + (txtP PA).length := by
  have hw := nd_wsize hx
  rw [Lib.size_eq] at hw
  have hd := dec_len x.n.toNat
  have leaf : (x.k = 1 ∨ x.k = 2 ∨ x.k = 3 ∨ x.k = 9) → (txtP (opnS st0 x ++ (PA ++ clsS st0 x))).length ≤ 130 + (txtP PA).length := fun e => by
    rw [nd_kids0 hx e] at hW
    obtain ⟨rfl, rfl⟩ := hW.zero
    rw [tx_leaf e]
    omega
  rcases nd_kinds hx with e | e | e | e | e | e | e | e | e
  · exact leaf (.inl e)
  · exact leaf (.inr (.inl e))
  · exact leaf (.inr (.inr (.inl e)))
  · rw [tx_list (.inl e)]; simp only [List.length_append, List.length_cons, List.length_nil]; omega
  · rw [tx_list (.inr e)]; simp only [List.length_append, List.length_cons, List.length_nil]; omega
  · rw [tx_opt e]; simp only [List.length_append, List.length_cons, List.length_nil]; omega
  · rw [tx_parts (.inl e)]; simp only [List.length_append, List.length_cons, List.length_nil]; omega
  · rw [tx_parts (.inr e)]; simp only [List.length_append, List.length_cons, List.length_nil]; omega
  · exact leaf (.inr (.inr (.inr e)))
theorem hds_len {k : Int} {x : Nd} {d : Nat} (h : ndE x k d = 0) : (txtP (hdS st0 k x)).length ≤ 101 := by
  unfold hdS
  by_cases h7 : k = 7
  · rw [if_pos h7]
    have := dec_len x.tag.toNat
    simp [txtP, wbm, wbn, st0]
    omega
  · rw [if_neg h7]
    by_cases h8 : k = 8
    · rw [if_pos h8]
      have h2 := hd_size h (.inr h8)
      unfold hdX at h2
      rw [if_neg h7, Lib.size_eq] at h2
      simp [txtP, wbm, wbw, st0] at h2 ⊢
      omega
    · rw [if_neg h8]; simp [txtP]
theorem sep_len (k : Int) (n : Nat) : (txtP (sepS k n)).length ≤ 1 := by
  unfold sepS
  split
  · simp [txtP, wbm]
  · simp [txtP]
/-- How long the text of a row of trees is at most. -/
theorem ws_len : ∀ (fu d : Nat) (k : Int) (n : Nat) (N : List Nd) (P : List (Q × List UInt8)), WS st0 fu d k n N P → (txtP P).length ≤ 300 * N.length
  | 0, d, k, n, N, P, h => by obtain ⟨_, rfl, rfl⟩ := h; simp [txtP]
  | fu + 1, d, k, 0, N, P, h => by obtain ⟨rfl, rfl⟩ := h; simp [txtP]
  | fu + 1, d, k, n + 1, N, P, h => by
    obtain ⟨x, A, B, PA, PB, rfl, h2, hA, hB, rfl⟩ := h
    have i1 := ws_len fu _ _ _ _ _ hA
    have i2 := ws_len fu _ _ _ _ _ hB
    have i3 := nodeT_len h2 hA
    have i4 := hds_len h2
    have i5 := sep_len k n
    simp only [txtP_app, List.length_append, List.length_cons] at i1 i2 i3 i4 i5 ⊢
    omega
theorem fT_len {x : Nd} {k : Int} {d f : Nat} {A : List Nd} {PA : List (Q × List UInt8)} (hx : ndE x k d = 0) (hW : WS st0 f (d + 1) x.k x.kids.toNat A PA) (hl : A.length ≤ 1954687338267) : (fT x PA).size ≤ 600000000000000 := by
  rw [Lib.size_eq, fT_list]
  have h1 := nodeT_len hx hW
  have h2 := ws_len _ _ _ _ _ _ hW
  omega
def FoAt (fu : Nat) (K : Int → Prop) : Prop := ∀ (w : World) (Ls A R : List Nd) (x : Nd) (d : Nat) (k : Int) (PA : List (Q × List UInt8)) (a : Option Addr) (L c i : Nat), K x.k → ndE x k d = 0 → WS st0 fu (d + 1) x.k x.kids.toNat A PA → Ls.length = L → L ≤ 1954687338267 → Ls.drop i = x :: (A ++ R) →
  Hid (NRow w a Ls) → Hid (Tab w.heap.size w) → Calls Tryd.prog 19 #[.slice a L c, .int .i64 (i : Int)] w fun e w' => e = .returned (.string (fT x PA)) ∧ Below w.heap.size w w'
def FoOk (fu : Nat) : Prop := FoAt fu (fun _ => True)
set_option maxRecDepth 100000 in
set_option maxHeartbeats 8000000 in
theorem fo_leaf (fu : Nat) : FoAt fu (fun k => k = 1 ∨ k = 2 ∨ k = 3 ∨ k = 9) := by
  intro w Ls A R x d k PA a L c i hk hx hW hL hL63 hd HR HT
  obtain ⟨hxi, hiL⟩ := at_drop hd
  rw [hL] at hiL
  have h0 := nd_kids0 hx hk
  have hu := nd_u hx
  rw [h0] at hW
  obtain ⟨rfl, rfl⟩ := hW.zero
  have HX : Hid (fT x [] = wordT x) := hide_ (by
    have h := tx_leaf hk
    rw [← fT_list] at h
    apply ByteArray.ext
    exact Array.toList_inj.1 h)
  rw [HX.out]
  obtain ⟨b, off, rfl, hb, hcell⟩ := HR.out.open (by omega)
  have g := hcell i x hxi
  have n0 := g 0 (by decide); have n1 := g 1 (by decide); have n2 := g 2 (by decide); have n3 := g 3 (by decide); have n4 := g 4 (by decide); have n5 := g 5 (by decide); have n6 := g 6 (by decide)
  clear g
  simp [ndc] at n0 n1 n2 n3 n4 n5 n6
  clear hcell hW hd hL hxi hx HX HR h0
  obtain ⟨k1, N, nm, lb, tg, kd, at1⟩ := x
  simp only at hk hu n0 n1 n2 n3 n4 n5 n6
  have HB : Hid (∀ o, Below w.heap.size w (w.alloc o)) := hide_ (fun o => (Below.refl _ _).alloc (Nat.le_refl _) _)
  rcases hk with rfl | rfl | rfl | rfl
  · rcases hu rfl with rfl | rfl | rfl | rfl
    · go_enter Tryd.func19, Tryd.ntmps19
      go_wp2_with (go_at_call 26; refine (itoa_c 8 (by decide) ⟨#[56]⟩ d8 _).mono ?_; rintro e w' ⟨rfl, rfl⟩)
      go_ret
      exact ⟨rfl, HB.out _⟩
    · go_enter Tryd.func19, Tryd.ntmps19
      go_wp2_with (go_at_call 26; refine (itoa_c 16 (by decide) ⟨#[49, 54]⟩ d16 _).mono ?_; rintro e w' ⟨rfl, rfl⟩)
      go_ret
      exact ⟨rfl, HB.out _⟩
    · go_enter Tryd.func19, Tryd.ntmps19
      go_wp2_with (go_at_call 26; refine (itoa_c 32 (by decide) ⟨#[51, 50]⟩ d32 _).mono ?_; rintro e w' ⟨rfl, rfl⟩)
      go_ret
      exact ⟨rfl, HB.out _⟩
    · go_enter Tryd.func19, Tryd.ntmps19
      go_wp2_with (go_at_call 26; refine (itoa_c 64 (by decide) ⟨#[54, 52]⟩ d64 _).mono ?_; rintro e w' ⟨rfl, rfl⟩)
      go_ret
      exact ⟨rfl, HB.out _⟩
  · go_enter Tryd.func19, Tryd.ntmps19
    go_wp2
    go_ret
    exact ⟨rfl, HB.out _⟩
  · go_enter Tryd.func19, Tryd.ntmps19
    go_wp2
    go_ret
    exact ⟨rfl, HB.out _⟩
  · go_enter Tryd.func19, Tryd.ntmps19
    go_wp2
    go_ret
    exact ⟨rfl, HB.out _⟩
end Go.Proofs.YtafljgjkcnbhbaaDoor

/- copied: what lies in memory. -/
namespace Go.Proofs.YtafljgjkcnbhbaaDoor
open Go.RowKit
set_option linter.unusedVariables false

theorem res2cells {P : Program} {fn : Func} {p q : Tmp} {ty : TypeId} (h : fn.results = #[.cell p ty, .cell q ty]) (tmps : Array Value) (w : World) (g g2 : Nat) (t t2 : TypeId) (cs cs2 : Array Value) (fr fr2 : Nat × Nat) (d : TypeDesc)
    (hp : tmps.getD p undef = .pointer (some ⟨g, 0, none⟩)) (hg : w.heap[g]? = some (.cells cs t fr)) (hp2 : tmps.getD q undef = .pointer (some ⟨g2, 0, none⟩)) (hg2 : w.heap[g2]? = some (.cells cs2 t2 fr2))
    (hu : P.underlying ty = some d) (hd : (match d with | .struct _ | .array _ _ => true | _ => false) = true) (hi : (P.info? ty).map (·.size) = some cs.size) (hi2 : (P.info? ty).map (·.size) = some cs2.size) :
    (results fn tmps).run P w = .ok (.tuple #[.agg cs, .agg cs2]) w := by
  have hp' : tmps[p]?.getD undef = .pointer (some ⟨g, 0, none⟩) := by simpa using hp
  have hp2' : tmps[q]?.getD undef = .pointer (some ⟨g2, 0, none⟩) := by simpa using hp2
  simp only [results, h]
  simp [hp', hp2', asAddr, Result.andThen, run_loadVar_row w g t ty cs fr d hg hu hd hi, run_loadVar_row w g2 t2 ty cs2 fr2 d hg2 hu hd hi2]
theorem bldD (s : ByteArray) (x : Int) (ga : Option Addr) (n c : Nat) (w : World) : (Instr.build 41 #[(0, .string s), (1, .int .i64 x), (2, .slice ga n c)]).run Tryd.prog w = .ok (.agg #[.string s, .int .i64 x, .slice ga n c]) w := by kernel_rfl
def mkX : Nd := ⟨99, 7, ⟨#[109, 97, 114, 107]⟩, ⟨#[]⟩, 0, 0, 0⟩
/-- A copy with a mark behind it: append, then cut. -/
theorem markX_push {w : World} {B : Nat} {v : Value} {N : List Nd} (h : w.ownsRow B 38 7 v N.length (cellsN N)) (hl : N.length ≤ 1954687338267) (hB : B ≤ w.heap.size) :
    ∃ g cap w', (Builtin.append_ #[39, 39] 39 #[v, .slice (some ⟨w.heap.size, 0, none⟩) 1 1]).run Tryd.prog (w.alloc (.cells #[.int .i64 99, .int .i64 7, .string ⟨#[109, 97, 114, 107]⟩, .string ⟨#[]⟩, .int .i64 0, .int .i64 0, .int .i64 0] 38)) = .ok (.slice (some ⟨g, 0, none⟩) (N.length + 1) cap) w' ∧
      w'.ownsRow B 38 7 (.slice (some ⟨g, 0, none⟩) N.length cap) N.length (cellsN N) ∧ Upd (fun k => v.ownBlock = some k) w w' ∧ (v.ownBlock = some g ∨ w.heap.size ≤ g) ∧ N.length + 1 ≤ cap ∧ cap ≤ 9223372036854775807 := by
  obtain ⟨g, cap, w', r1, o1, u1, c1⟩ := run_pushS (P := Tryd.prog) (t := 39) (e := 38) (c := 7) (z := .agg #[.int .i64 0, .int .i64 0, .string ⟨#[]⟩, .string ⟨#[]⟩, .int .i64 0, .int .i64 0, .int .i64 0]) (bytes := 72) Tryd.underlying39 (by kernel_rfl) rfl (by decide) w 39 h (ndc mkX) rfl (by intro u hu; simp [ndc, mkX] at hu; rcases hu with rfl | rfl | rfl | rfl | rfl <;> rfl) (by unfold maxLen; omega) (by omega) hB
  obtain ⟨g', cap', ys, hv, _, hn, hm, _, hyt, hyk⟩ := ownS_blk o1 (by omega)
  injection hv with h1 h2 h3
  injection h1 with h1
  injection h1 with h1
  subst h1 h3
  refine ⟨g, cap, w', r1, ?_, u1, c1, hn, by unfold maxLen at hm; exact hm⟩
  have h4 := own_cut o1 (m := N.length) (by omega)
  have e : (cellsN N ++ ndc mkX).take (N.length * 7) = cellsN N := by rw [← cellsN_len]; exact List.take_left
  rw [e] at h4
  exact h4
set_option maxRecDepth 100000 in
/-- append([]api.Expr{}, x...), x a row of nodes. -/
theorem run_copyE (w : World) (B : Nat) (a : Option Addr) (cap : Nat) (N : List Nd) (hr : NRow w a N) (hnil : a = none → cap = 0) (hl : N.length ≤ 1954687338268) (hB : B ≤ w.heap.size) :
    ∃ ga c' w', (Builtin.append_ #[39, 39] 39 #[.slice (some ⟨w.heap.size, 0, none⟩) 0 0, .slice a N.length cap]).run Tryd.prog (w.alloc (.cells #[] 38)) = .ok (.slice ga N.length c') w' ∧ w'.ownsRow B 38 7 (.slice ga N.length c') N.length (cellsN N) ∧ Below w.heap.size w w' ∧ (∀ k, (Value.slice ga N.length c').ownBlock = some k → w.heap.size ≤ k) := by
  have hinfo : (Tryd.prog.info? 38).map (fun i => (i.zero, i.size, i.bytes)) = some (some (.agg #[.int .i64 0, .int .i64 0, .string ⟨#[]⟩, .string ⟨#[]⟩, .int .i64 0, .int .i64 0, .int .i64 0]), 7, 72) := by kernel_rfl
  obtain ⟨i0, hi, hz0, hz1, hz2⟩ := info_parts hinfo
  have hBe : Below w.heap.size w (w.alloc (.cells #[] 38)) := (Below.refl _ _).alloc (Nat.le_refl _) _
  have hE : (w.alloc (.cells #[] 38)).ownsRow w.heap.size 38 7 (.slice (some ⟨w.heap.size, 0, none⟩) 0 0) 0 [] := by
    have h := ownS_of_blk (B := w.heap.size) (n := 0) (c := 7) (cap := 0) (Blk.newA w #[] 38) (Nat.le_refl _) rfl (Nat.le_refl _) (by unfold maxLen; omega)
    simpa using h
  have hr2 := hr.later hBe
  have key : ∀ (v' : Value) (w' : World), w'.ownsRow w.heap.size 38 7 v' N.length (cellsN N) → Upd (fun k => (Value.slice (some ⟨w.heap.size, 0, none⟩) 0 0).ownBlock = some k) (w.alloc (.cells #[] 38)) w' →
      ∃ ga c', v' = .slice ga N.length c' ∧ w'.ownsRow B 38 7 (.slice ga N.length c') N.length (cellsN N) ∧ Below w.heap.size w w' ∧ (∀ k, (Value.slice ga N.length c').ownBlock = some k → w.heap.size ≤ k) := fun v' w' h1 h3 => by
    obtain ⟨ga, c', rfl⟩ := own_slice h1
    exact ⟨ga, c', rfl, own_base h1 hB, hBe.trans (h3.below _ hBe.size (fun k hk => by have := own_is hk; omega)), fun k hk => (h1.lt k hk).1⟩
  generalize hwE : w.alloc (.cells #[] 38) = wE at *
  have hsE : w.heap.size ≤ wE.heap.size := hBe.size
  rcases hr2 with rfl | ⟨b, off, rfl, hb, hc⟩
  · cases a with
    | none =>
      obtain rfl := hnil rfl
      have hrun := run_append_owned_none (P := Tryd.prog) wE w.heap.size 39 39 38 i0 7 Tryd.underlying39 hi (.slice (some ⟨w.heap.size, 0, none⟩) 0 0) 0 [] hE
      obtain ⟨ga, c', e, h1, h2, h3⟩ := key _ wE hE (Upd.refl _ _)
      exact ⟨ga, c', wE, by rw [← e]; exact hrun, h1, h2, h3⟩
    | some x =>
      obtain ⟨v', w', hrun, h2, h3, h4, h5⟩ := run_append_own_at (P := Tryd.prog) wE w.heap.size 39 39 38 i0 _ 7 72 Tryd.underlying39 hi hz0 hz1 hz2 rfl (by decide) (.slice (some ⟨w.heap.size, 0, none⟩) 0 0) 0 [] hE x 0 cap [] rfl (fun j u hj => by simp at hj) (fun u hu => by cases hu) (by unfold maxLen; omega) (by omega) hsE
      have hg := (Upd.refl (fun k => (Value.slice (some ⟨w.heap.size, 0, none⟩) 0 0).ownBlock = some k) wE).grown h3 (fun k hk => .inl hk)
      simp only [List.append_nil, Nat.add_zero] at h2
      obtain ⟨ga, c', e, k1, k2, k3⟩ := key v' w' (by simpa [cellsN] using h2) hg
      exact ⟨ga, c', w', by rw [← e]; simpa using hrun, k1, k2, k3⟩
  · have hcell : ∀ j u, (cellsN N)[j]? = some u → wE.cell? ((⟨b, off, none⟩ : Addr).add j) = some u := fun j u hj => by
      have hlt := (List.getElem?_eq_some_iff.1 hj).1
      rw [cellsN_len] at hlt
      have hi : j / 7 < N.length := by omega
      have hx : N[j / 7]? = some (N[j / 7]'hi) := List.getElem?_eq_getElem hi
      have h1 := hc (j / 7) _ hx (j % 7) (Nat.mod_lt _ (by decide))
      have h2 := cellsN_at N (j / 7) (j % 7) _ hx (Nat.mod_lt _ (by decide))
      have e : j / 7 * 7 + j % 7 = j := by omega
      rw [e] at h2
      rw [add_none, ← hj, h2, ← h1]
      congr 2
      omega
    obtain ⟨v', w', hrun, h2, h3, h4, h5⟩ := run_append_own_at (P := Tryd.prog) wE w.heap.size 39 39 38 i0 _ 7 72 Tryd.underlying39 hi hz0 hz1 hz2 rfl (by decide) (.slice (some ⟨w.heap.size, 0, none⟩) 0 0) 0 [] hE ⟨b, off, none⟩ N.length cap (cellsN N) (cellsN_len N) hcell (cellsN_one' N) (by unfold maxLen; omega) (by omega) hsE
    rw [Nat.zero_add, List.nil_append] at h2
    have hg := (Upd.refl (fun k => (Value.slice (some ⟨w.heap.size, 0, none⟩) 0 0).ownBlock = some k) wE).grown h3 (fun k hk => .inl hk)
    obtain ⟨ga, c', e, k1, k2, k3⟩ := key v' w' h2 hg
    exact ⟨ga, c', w', by rw [← e]; exact hrun, k1, k2, k3⟩
section
variable {w wr wr' : World} {u1 vdi vdk : Value} {bi bk : Nat} {Di Dk : List Df} {vsi vsk : List Value}
/-- Two sources that are made side by side. -/
def CpT (w wr : World) (u1 : Value) (bi bk : Nat) (Di : List Df) (vdi : Value) (vsi : List Value) (Dk : List Df) (vdk : Value) (vsk : List Value) : Prop :=
  Src wr w.heap.size vdi Di vsi ∧ Src wr w.heap.size vdk Dk vsk ∧ Blk wr bi 24 [vdi] ∧ Blk wr bk 24 [vdk] ∧ (bi ≠ bk ∧ w.heap.size + 3 ≤ bi ∧ w.heap.size + 3 ≤ bk) ∧ Blk wr w.heap.size 24 [u1] ∧
    Blk wr (w.heap.size + 1) 24 [.slice none 0 0] ∧ Blk wr (w.heap.size + 2) 24 [.slice none 0 0] ∧ Below w.heap.size w wr ∧ (∀ g, vdi.ownBlock = some g → vdk.ownBlock ≠ some g)
theorem CpT.swap (h : CpT w wr u1 bi bk Di vdi vsi Dk vdk vsk) : CpT w wr u1 bk bi Dk vdk vsk Di vdi vsi := by
  obtain ⟨h1, h2, h3, h4, h5, h6, h7, h8, h9, h10⟩ := h
  exact ⟨h2, h1, h4, h3, ⟨fun e => h5.1 e.symm, h5.2.2, h5.2.1⟩, h6, h7, h8, h9, fun g hg e => h10 g e hg⟩
theorem CpT.later (h : CpT w wr u1 bi bk Di vdi vsi Dk vdk vsk) (hB : Below wr.heap.size wr wr') : CpT w wr' u1 bi bk Di vdi vsi Dk vdk vsk := by
  obtain ⟨h1, h2, h3, h4, h5, h6, h7, h8, h9, h10⟩ := h
  exact ⟨h1.later hB, h2.later hB, h3.later hB, h4.later hB, h5, h6.later hB, h7.later hB, h8.later hB, h9.trans (hB.mono h9.size), h10⟩
theorem CpT.push (h : CpT w wr u1 bi bk Di vdi vsi Dk vdk vsk) (d : Df) (nv : Value) (hv : wr.ownsRow w.heap.size 38 7 nv d.ty.length (cellsN d.ty)) (hn : ∀ (i : Nat) (u : Value) (k : Nat), vsi[i]? = some u → u.ownBlock = some k → nv.ownBlock ≠ some k) (hl : Di.length ≤ 2932031007401) (hone : nv.oneCell' = true) :
    ∃ g cap w', (Builtin.append_ #[22, 22] 22 #[vdi, .slice (some ⟨wr.heap.size, 0, none⟩) 1 1]).run Tryd.prog (wr.alloc (.cells #[.string d.name, .int .i64 d.a, nv] 41)) = .ok (.slice (some ⟨g, 0, none⟩) (Di.length + 1) cap) w' ∧
      w'.cell? ⟨bi, 0, none⟩ = some vdi ∧ w'.frozen? ⟨bi, 0, none⟩ = false ∧ wr.heap.size ≤ w'.heap.size ∧ (∀ (b : Nat) (t : TypeId) (ys : List Value), Blk wr b t ys → vdi.ownBlock ≠ some b → b ≠ bi → Blk (w'.setCell ⟨bi, 0, none⟩ (.slice (some ⟨g, 0, none⟩) (Di.length + 1) cap)) b t ys) ∧
      CpT w (w'.setCell ⟨bi, 0, none⟩ (.slice (some ⟨g, 0, none⟩) (Di.length + 1) cap)) u1 bi bk (Di ++ [d]) (.slice (some ⟨g, 0, none⟩) (Di.length + 1) cap) (vsi ++ [nv]) Dk vdk vsk := by
  obtain ⟨h1, h2, h3, h4, h5, h6, h7, h8, h9, h10⟩ := h
  obtain ⟨g, cap, w', r, S, U, C⟩ := h1.push d nv hv hn hl h9.size hone
  have hty : ∀ (b : Nat) (t : TypeId) (x : List Value), Blk wr b t x → t ≠ 41 → ¬ vdi.ownBlock = some b := fun b t x hb ht e => by
    obtain ⟨zs, hz⟩ := ownS_type h1.2.1 e
    exact ht (blk_type hb hz)
  have j3 := h3.upd U (hty _ _ _ h3 (by decide))
  have j4 := h4.upd U (hty _ _ _ h4 (by decide))
  have j6 := h6.upd U (hty _ _ _ h6 (by decide))
  have j7 := h7.upd U (hty _ _ _ h7 (by decide))
  have j8 := h8.upd U (hty _ _ _ h8 (by decide))
  have j2 : Src w' w.heap.size vdk Dk vsk := h2.upd U (fun k hk e => h10 k e hk) (fun i v k hv hk e => by
    obtain ⟨d', hd'⟩ := h2.d hv
    obtain ⟨zs, hz⟩ := ownS_type (h2.2.2.1 i d' v hd' hv) hk
    exact hty _ _ _ hz (by decide) e)
  have hU : Upd (fun k => k = bi) w' (w'.setCell ⟨bi, 0, none⟩ (.slice (some ⟨g, 0, none⟩) (Di.length + 1) cap)) := (Upd.refl _ w').set _ _ (.inl rfl)
  have hge : ∀ k, vdi.ownBlock = some k → w.heap.size ≤ k := fun k hk => (h1.2.1.lt k hk).1
  refine ⟨g, cap, w', r, by have := j3.cell 0; simpa using this, j3.frozen 0, U.size, (fun b t ys hb h0 h1 => (hb.upd U h0).other _ _ h1), S.other hU j3 (by decide) (by decide), j2.other hU j3 (by decide) (by decide), by have := j3.set 0 (.slice (some ⟨g, 0, none⟩) (Di.length + 1) cap); simpa using this, j4.other _ _ (fun e => h5.1 e.symm), h5, j6.other _ _ (by show w.heap.size ≠ bi; omega), j7.other _ _ (by show w.heap.size + 1 ≠ bi; omega), j8.other _ _ (by show w.heap.size + 2 ≠ bi; omega), below_set (h9.trans (U.below _ h9.size hge)) bi 0 _ (by omega), fun g' hg' e => ?_⟩
  have hgg : g = g' := own_is hg'
  subst hgg
  rcases C with C | C
  · exact h10 g C e
  · have := own_lt h2.2.1 e
    omega
end
end Go.Proofs.YtafljgjkcnbhbaaDoor
