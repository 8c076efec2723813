import Derived.Test.YtbfmoiaedopeiaaDoorPart01
import Derived.Test.YtbfmoiaedopeiaaDoorPart14
import Derived.Test.YtbfmoiaedopeiaaDoorPart15
import Derived.Lib.AppendIntMem
import Derived.Deep.RegionLaw
import Derived.Test.YtbfmoiaedopeiaaDoorPart13

/- strconv.Itoa of a number from 0 on; a list of nodes cut by one. -/
namespace Go.Proofs.YtbfmoiaedopeiaaDoor
open Go.RowKit
set_option linter.unusedVariables false

/-- The library's table of powers lies where it lay, below B. -/
structure Tab (B : Nat) (w : World) : Prop where
  is : Lib.TabIs Tryd.prog w "internal/strconv.uint64pow10" .u64 Lib.pow10Tab
  lt : ∀ g, Tryd.prog.globalNamed "internal/strconv.uint64pow10" = some g → g < B
theorem Tab.below {B : Nat} {w w' : World} (h : Tab B w) (hB : Below B w w') : Tab B w' := by
  refine ⟨?_, h.lt⟩
  have h1 := h.is
  unfold Lib.TabIs World.var? at *
  cases hg : Tryd.prog.globalNamed "internal/strconv.uint64pow10" with
  | none => rw [hg] at h1; simp at h1
  | some g =>
    rw [hg] at h1
    simp only [Option.bind_some] at h1 ⊢
    rw [hB.block g (h.lt g hg)]
    exact h1
theorem Tab.mono {B B' : Nat} {w : World} (h : Tab B w) (hB : B ≤ B') : Tab B' w := ⟨h.is, fun g hg => Nat.lt_of_lt_of_le (h.lt g hg) hB⟩
theorem Tab.at {w0 w : World} (h : Tab w0.heap.size w0) (hB : Below w0.heap.size w0 w) : Tab w.heap.size w := (h.below hB).mono hB.size
theorem decF_dec : ∀ (f n : Nat), n < 10 ^ (f + 1) → decF (f + 1) n = Lib.decDigits n
  | 0, n, h => by
    have h1 : n < 10 := by simpa using h
    rw [decF, if_pos h1, Lib.decDigits_one h1]
  | f + 1, n, h => by
    by_cases h10 : n < 10
    · rw [decF, if_pos h10, Lib.decDigits_one h10]
    · have hd : n / 10 < 10 ^ (f + 1) := by
        rw [Nat.pow_succ] at h
        exact Nat.div_lt_of_lt_mul (by rw [Nat.mul_comm]; exact h)
      rw [decF, if_neg h10, decF_dec f (n / 10) hd]
      conv => rhs; rw [Lib.decDigits, dif_neg h10]
theorem dec_is {n : Nat} (h : n ≤ 2147483647) : Lib.decDigits n = dec n := (decF_dec 19 n (Nat.lt_of_le_of_lt h (by decide))).symm
theorem itoa_any (n : Nat) (w : World) (hn : n ≤ 2147483647) (ht : Tab w.heap.size w) : Calls Tryd.prog 28 #[.int .i64 (n : Int)] w fun e w' => e = .returned (.string ⟨(dec n).toArray⟩) ∧ Below w.heap.size w w' := by
  refine (Tryd.strconv_Itoa (n : Int) (by omega) (by omega) w ht.is).mono ?_
  rintro e w' ⟨rfl, k, os, rfl⟩
  refine ⟨?_, Lib.below_grow w.heap.size w (Nat.le_refl _) k os⟩
  have h : Lib.itoa (n : Int) = dec n := by unfold Lib.itoa; rw [if_neg (by omega), Int.toNat_natCast, dec_is hn]
  rw [h]
theorem itoa_c (i : Nat) (hi : i < 100) (s : ByteArray) (hs : (⟨(Lib.decDigits i).toArray⟩ : ByteArray) = s) (w : World) : Calls Tryd.prog 28 #[.int .i64 (i : Int)] w fun e w' => e = .returned (.string s) ∧ w = w' := by
  rw [← hs]
  exact (Tryd.strconv_Itoa_small i hi w).mono fun e w' h => ⟨h.1, h.2.symm⟩
theorem decF_le : ∀ (f n : Nat), (decF f n).length ≤ f
  | 0, n => by simp [decF]
  | f + 1, n => by
    rw [decF]
    split
    · simp
    · have := decF_le f (n / 10)
      simp
      exact this
theorem dec_len (n : Nat) : (dec n).length ≤ 20 := decF_le 20 n
/-! ### A list of nodes, its first cut off -/
theorem elemN : Tryd.prog.underlying 31 = some (.slice (Tryd.prog.elem 31)) := by kernel_rfl
theorem elemNi : Tryd.prog.elem 31 = 35 := by kernel_rfl
theorem sizeOfN (w : World) : (sizeOf (Tryd.prog.elem 31)).run Tryd.prog w = .ok 7 w := by
  rw [elemNi]
  exact Tryd.sizeOf35 w
theorem cut1 (b off L c : Nat) (hL : 1 ≤ L) (hc : L ≤ c) : ∃ off', (1 < L → off' = off + 7) ∧ ∀ w', (Instr.slice 31 (.slice (some ⟨b, off, none⟩) L c) (some (.int .i64 1)) none none).run Tryd.prog w' = .ok (.slice (some ⟨b, off', none⟩) (L - 1) (c - 1)) w' := by
  refine ⟨if c = 1 then off else off + 7, fun h => if_neg (by omega), fun w' => ?_⟩
  rw [run_slice_l (P := Tryd.prog) w' 31 _ L c elemN .i64 1 (by omega) (by omega), sizeOfN]
  by_cases h : c = 1
  · simp [sliced, Result.andThen, h]
  · simp [sliced, Result.andThen, h, add_none]
theorem NRow.cut {w : World} {b off L c : Nat} {x : Nd} {N : List Nd} (h : NRow w (some ⟨b, off, none⟩) (x :: N)) (hL : (x :: N).length = L) (hc : L ≤ c) : ∃ off', (∀ w', (Instr.slice 31 (.slice (some ⟨b, off, none⟩) L c) (some (.int .i64 1)) none none).run Tryd.prog w' = .ok (.slice (some ⟨b, off', none⟩) (L - 1) (c - 1)) w') ∧ NRow w (some ⟨b, off', none⟩) N := by
  obtain ⟨off', h1, h2⟩ := cut1 b off L c (by rw [← hL]; simp) hc
  refine ⟨off', h2, ?_⟩
  obtain ⟨b', o', e, hb, hcell⟩ := h.open (by simp)
  injection e with e
  injection e with e1 e2
  subst e1 e2
  cases hN : N with
  | nil => exact .inl rfl
  | cons y M =>
    rw [← hN]
    refine .inr ⟨_, off', rfl, hb, fun i z hz j hj => ?_⟩
    have := hcell (i + 1) z (by simpa using hz) j hj
    rw [h1 (by rw [← hL, hN]; simp)]
    rw [← this]
    congr 2
    omega
end Go.Proofs.YtbfmoiaedopeiaaDoor

/- A text that is printed, in memory: its box, its bytes, whether it is too long. -/
namespace Go.Proofs.YtbfmoiaedopeiaaDoor
open Go.RowKit
set_option linter.unusedVariables false

/-- The text under way: F is all that was added; nothing is laid behind the bound. -/
def Txw (w : World) (B gT gL : Nat) (F : List UInt8) : Prop := B ≤ gT ∧ B ≤ gL ∧ ∃ (vb : Value) (b : List UInt8) (lg : Bool), Blk w gT 46 [vb] ∧ BR B w vb b ∧ Blk w gL 4 [.bool lg] ∧ b.length ≤ 65536 ∧ ((lg = false ∧ b = F) ∨ (lg = true ∧ 65536 < F.length))
/-- What a call leaves alone. -/
def Kp (B : Nat) (w w' : World) : Prop := Below B w w' ∧ ∀ (k : Nat) (t : TypeId) (ys : List Value), t ≠ 5 → t ≠ 46 → t ≠ 4 → Blk w k t ys → Blk w' k t ys
theorem Kp.refl (B : Nat) (w : World) : Kp B w w := ⟨Below.refl _ _, fun _ _ _ _ _ _ h => h⟩
theorem Kp.trans {B : Nat} {w w' w'' : World} (h : Kp B w w') (k : Kp B w' w'') : Kp B w w'' := ⟨h.1.trans k.1, fun j t ys h1 h2 h3 h4 => k.2 j t ys h1 h2 h3 (h.2 j t ys h1 h2 h3 h4)⟩
theorem Kp.of_below {B : Nat} {w w' : World} (hB : B ≤ w.heap.size) (h : Below w.heap.size w w') : Kp B w w' := ⟨h.mono hB, fun j t ys _ _ _ h4 => h4.later h⟩
theorem Kp.of_upd {B : Nat} {S : Nat → Prop} {w w' : World} (hB : B ≤ w.heap.size) (h : Upd S w w') (hs : ∀ k, S k → B ≤ k) (ht : ∀ k, S k → ∃ t ys, Blk w k t ys ∧ (t = 5 ∨ t = 46 ∨ t = 4)) : Kp B w w' := by
  refine ⟨h.below B hB hs, fun j t ys h1 h2 h3 h4 => h4.upd h (fun hj => ?_)⟩
  obtain ⟨t', ys', k1, k2⟩ := ht j hj
  have := blk_type h4 k1
  subst this
  rcases k2 with k2 | k2 | k2
  · exact h1 k2
  · exact h2 k2
  · exact h3 k2
section
variable {w w' : World} {B gT gL : Nat} {F b : List UInt8} {vb : Value} {lg : Bool}
theorem Txw.later (h : Txw w B gT gL F) (hB : Below w.heap.size w w') : Txw w' B gT gL F := by
  obtain ⟨h1, h2, vb, b, lg, k1, k2, k3, k4⟩ := h
  exact ⟨h1, h2, vb, b, lg, k1.later hB, ownS_upd k2 (Upd.of_below (S := fun _ => False) hB) (fun _ _ h => h), k3.later hB, k4⟩
theorem Txw.size (h : Txw w B gT gL F) : B ≤ w.heap.size := by
  obtain ⟨h1, h2, vb, b, lg, k1, _⟩ := h
  exact Nat.le_trans h1 (Nat.le_of_lt k1.lt)
theorem br_not (k2 : BR B w vb b) {k : Nat} {t : TypeId} {ys : List Value} (hk : Blk w k t ys) (ht : t ≠ 5) : ¬ vb.ownBlock = some k := fun e => by
  obtain ⟨zs, hz⟩ := ownS_type k2 e
  exact ht (blk_type hk hz)
/-- Too long, now or before. -/
theorem txw_long (h1 : B ≤ gT) (h2 : B ≤ gL) (k1 : Blk w gT 46 [vb]) (k2 : BR B w vb b) (k3 : Blk w gL 4 [.bool lg]) (hb : b.length ≤ 65536) (hF : 65536 < F.length) :
    Txw (w.setCell ⟨gL, 0, none⟩ (.bool true)) B gT gL F ∧ Kp B w (w.setCell ⟨gL, 0, none⟩ (.bool true)) := by
  have hU : Upd (fun k => k = gL) w (w.setCell ⟨gL, 0, none⟩ (.bool true)) := (Upd.refl _ w).set _ _ (.inl rfl)
  refine ⟨⟨h1, h2, vb, b, true, k1.upd hU (fun e => ?_), ownS_upd k2 hU (fun k hk e => ?_), by have := k3.set 0 (.bool true); simpa using this, hb, .inr ⟨rfl, hF⟩⟩, Kp.of_upd (Nat.le_trans h1 (Nat.le_of_lt k1.lt)) hU (fun k e => by subst e; exact h2) (fun k e => by subst e; exact ⟨_, _, k3, .inr (.inr rfl)⟩)⟩
  · subst e; exact absurd (blk_type k1 k3) (by decide)
  · subst e; exact br_not k2 k3 (by decide) hk
/-- It fits. -/
theorem txw_fit (h1 : B ≤ gT) (h2 : B ≤ gL) (k1 : Blk w gT 46 [vb]) (k2 : BR B w vb b) (k3 : Blk w gL 4 [.bool lg]) (s : ByteArray) (hs : b.length + s.size ≤ 65536) :
    ∃ v' w2, (∃ a2 n2 c2, v' = .slice a2 n2 c2) ∧ (Builtin.append_ #[46, 9] 46 #[vb, .string s]).run Tryd.prog (w.setCell ⟨gL, 0, none⟩ (.bool false)) = .ok v' w2 ∧ (w2.cell? ⟨gT, 0, none⟩ = some vb ∧ w2.frozen? ⟨gT, 0, none⟩ = false) ∧
      Txw (w2.setCell ⟨gT, 0, none⟩ v') B gT gL (b ++ s.data.toList) ∧ Kp B w (w2.setCell ⟨gT, 0, none⟩ v') := by
  have hBw : B ≤ w.heap.size := Nat.le_trans h1 (Nat.le_of_lt k1.lt)
  obtain ⟨w1, hw1⟩ : ∃ w1, w1 = w.setCell ⟨gL, 0, none⟩ (.bool false) := ⟨_, rfl⟩
  have hU : Upd (fun k => k = gL) w w1 := by rw [hw1]; exact (Upd.refl _ w).set _ _ (.inl rfl)
  have j1 : Blk w1 gT 46 [vb] := k1.upd hU (fun e => by subst e; exact absurd (blk_type k1 k3) (by decide))
  have j2 : BR B w1 vb b := ownS_upd k2 hU (fun k hk e => by subst e; exact br_not k2 k3 (by decide) hk)
  have j3 : Blk w1 gL 4 [.bool false] := by rw [hw1]; have := k3.set 0 (.bool false); simpa using this
  rw [← hw1]
  obtain ⟨v', w2, r1, r2, r3⟩ := j2.app s (by omega) (by omega) (Nat.le_trans hBw hU.size)
  have i1 := j1.upd r3 (br_not j2 j1 (by decide))
  have i3 := j3.upd r3 (br_not j2 j3 (by decide))
  have hU3 : Upd (fun k => k = gT) w2 (w2.setCell ⟨gT, 0, none⟩ v') := (Upd.refl _ w2).set _ _ (.inl rfl)
  refine ⟨v', w2, (by obtain ⟨a2, c2, e⟩ := r2.form; exact ⟨a2, _, c2, e⟩), r1, ⟨by have := i1.cell 0; simpa using this, i1.frozen 0⟩, ⟨h1, h2, v', b ++ s.data.toList, false, by have := i1.set 0 v'; simpa using this, ownS_upd r2 hU3 (fun k hk e => by subst e; exact br_not r2 i1 (by decide) hk), i3.upd hU3 (fun e => by subst e; exact absurd (blk_type i1 i3) (by decide)), by rw [List.length_append, ← Lib.size_eq]; exact hs, .inl ⟨rfl, rfl⟩⟩, ?_⟩
  have q1 : Kp B w w1 := Kp.of_upd hBw hU (fun k e => by subst e; exact h2) (fun k e => by subst e; exact ⟨_, _, k3, .inr (.inr rfl)⟩)
  have q2 : Kp B w1 w2 := Kp.of_upd (Nat.le_trans hBw hU.size) r3 (fun k e => by
    rcases j2.2 with ⟨e2, _⟩ | ⟨g, cap, cur, e2, hb, _⟩
    · subst e2; simp [Value.ownBlock] at e
    · subst e2; obtain rfl := own_is e; exact hb) (fun k e => by obtain ⟨zs, hz⟩ := ownS_type j2 e; exact ⟨_, _, hz, .inl rfl⟩)
  have q3 : Kp B w2 (w2.setCell ⟨gT, 0, none⟩ v') := Kp.of_upd (Nat.le_trans (Nat.le_trans hBw hU.size) r3.size) hU3 (fun k e => by subst e; exact h1) (fun k e => by subst e; exact ⟨_, _, i1, .inr (.inl rfl)⟩)
  exact (q1.trans q2).trans q3
end
def catP : List ByteArray → List UInt8
  | [] => []
  | p :: ps => p.data.toList ++ catP ps
theorem catP_app : ∀ (a b : List ByteArray), catP (a ++ b) = catP a ++ catP b
  | [], b => rfl
  | p :: a, b => by simp [catP, catP_app a b]
theorem catP_take {ps : List ByteArray} {k : Nat} {p : ByteArray} (h : ps[k]? = some p) : catP (ps.take (k + 1)) = catP (ps.take k) ++ p.data.toList := by
  obtain ⟨hk, rfl⟩ := List.getElem?_eq_some_iff.1 h
  rw [List.take_succ_eq_append_getElem hk, catP_app]
  simp [catP]
end Go.Proofs.YtbfmoiaedopeiaaDoor

/- Print's add. -/
namespace Go.Proofs.YtbfmoiaedopeiaaDoor
open Go.RowKit
set_option linter.unusedVariables false

set_option maxRecDepth 100000 in
set_option maxHeartbeats 4000000 in
theorem add_any (B gT gL bp : Nat) (F : List UInt8) (ps : List ByteArray) (n : Nat) (w : World) (hn : ps.length = n) (hn10 : n ≤ 10) (HT : Hid (Txw w B gT gL F)) (HP : Hid (Blk w bp 9 (ps.map Value.string))) (hps : ∀ p ∈ ps, p.size ≤ 100000000) :
    Calls Tryd.prog 16 #[.slice (some ⟨bp, 0, none⟩) n n, .pointer (some ⟨gL, 0, none⟩), .pointer (some ⟨gT, 0, none⟩)] w fun e w' => e = .returned (.tuple #[]) ∧ Hid (Txw w' B gT gL (F ++ catP ps)) ∧ Hid (Kp B w w') := by
  have HT0 : Hid (Txw w B gT gL (F ++ catP (ps.take 0))) := hide_ (by have := HT.out; simpa [catP] using this)
  have Hn := hide_ hn
  have Hps := hide_ hps
  clear hn hps HT
  go_enter Tryd.func16, Tryd.ntmps16
  go_wp2_with fail
  go_loopw [8] (fun x8 wr => ∃ k : Nat, k ≤ n ∧ x8 = .int .i64 (k : Int) ∧ Hid (Txw wr B gT gL (F ++ catP (ps.take k))) ∧ Hid (Kp B w wr)) (fun x8 _ => n - (intOf x8).toNat)
  case atStart => exact ⟨0, Nat.zero_le _, rfl, HT0, hide_ (Kp.refl _ _)⟩
  case round =>
    clear HT0
    obtain ⟨k, hk, rfl, HTr, HKr⟩ := hrel
    generalize wr = wq at *
    by_cases hlt : k < n
    · have hlt' : (k : Int) < n := by omega
      have hkp : ps[k]? = some (ps[k]'(by rw [Hn.out]; exact hlt)) := List.getElem?_eq_getElem _
      have hsz := Hps.out _ (List.getElem_mem (by rw [Hn.out]; exact hlt))
      generalize ps[k]'(by rw [Hn.out]; exact hlt) = p at *
      have HC := hide_ (catP_take hkp)
      have KP := HKr.out.2 bp 9 _ (by decide) (by decide) (by decide) HP.out
      have p0 : wq.cell? ⟨bp, k, none⟩ = some (.string p) := by rw [KP.cell, List.getElem?_map, hkp]; rfl
      clear KP hkp
      obtain ⟨h1, h2, vb, b, lg, k1, k2, k3, hb, hor⟩ := HTr.out
      have c1 := k1.cell 0
      have c3 := k3.cell 0
      have z1 := k1.frozen 0
      have z3 := k3.frozen 0
      simp at c1 c3
      obtain ⟨a, cap, hv⟩ := k2.form
      subst hv
      have hne : gT ≠ gL := fun e => by subst e; exact absurd (blk_type k1 k3) (by decide)
      have hne2 : gL ≠ gT := fun e => hne e.symm
      rcases hor with ⟨rfl, hbF⟩ | ⟨rfl, hF⟩
      · by_cases hfit : b.length + p.size ≤ 65536
        · obtain ⟨v', w2, ⟨a2, n2, cap2, hv2⟩, r1, ⟨r2, r3⟩, r4, r5⟩ := txw_fit h1 h2 k1 k2 k3 p hfit
          subst hv2
          have HR := hide_ r1
          have HT2 : Hid (Txw (w2.setCell ⟨gT, 0, none⟩ (.slice a2 n2 cap2)) B gT gL (F ++ catP (ps.take (k + 1)))) := hide_ (by rw [HC.out, ← List.append_assoc, ← hbF]; exact r4)
          have HK2 := hide_ (HKr.out.trans r5)
          have d1 : (wq.setCell ⟨gL, 0, none⟩ (.bool false)).cell? ⟨gT, 0, none⟩ = some (.slice a b.length cap) := by
            have := (k1.other ⟨gL, 0, none⟩ (.bool false) hne).cell 0
            simpa using this
          have hcmp : ¬ ((p.size : Int) > 65536 - (b.length : Int)) := by omega
          have hcmp2 : ¬ (65536 - (b.length : Int) < (p.size : Int)) := by omega
          clear r1 r4 r5 k1 k2 k3 hbF HTr HKr HC
          go_wp2_with (at_builtin; have _t := HR; refine wpList_append_run rfl (.tmp 23) (.tmp 24) 46 9 rfl rfl rfl HR.out ?_; clear HR)
          go_roundw
          case rel => exact ⟨k + 1, by omega, by go_num, HT2, HK2⟩
          case measure => simp [intOf]; omega
        · obtain ⟨r4, r5⟩ := txw_long (F := F ++ catP (ps.take (k + 1))) h1 h2 k1 k2 k3 hb (by rw [HC.out, ← List.append_assoc, ← hbF, List.length_append, ← Lib.size_eq]; omega)
          have HT2 := hide_ r4
          have HK2 := hide_ (HKr.out.trans r5)
          have hcmp : ((p.size : Int) > 65536 - (b.length : Int)) := by omega
          have hcmp2 : (65536 - (b.length : Int) < (p.size : Int)) := by omega
          clear r4 r5 k1 k2 k3 hbF HTr HKr HC
          go_wp2
          go_roundw
          case rel => exact ⟨k + 1, by omega, by go_num, HT2, HK2⟩
          case measure => simp [intOf]; omega
      · obtain ⟨r4, r5⟩ := txw_long (F := F ++ catP (ps.take (k + 1))) h1 h2 k1 k2 k3 hb (by rw [HC.out, ← List.append_assoc, List.length_append]; omega)
        have HT2 := hide_ r4
        have HK2 := hide_ (HKr.out.trans r5)
        clear r4 r5 k1 k2 k3 hF HTr HKr HC
        go_wp2
        go_roundw
        case rel => exact ⟨k + 1, by omega, by go_num, HT2, HK2⟩
        case measure => simp [intOf]; omega
    · obtain rfl : k = n := by omega
      have HT2 : Hid (Txw wq B gT gL (F ++ catP ps)) := hide_ (by have := HTr.out; rwa [← Hn.out, List.take_length] at this)
      clear HTr
      go_wp2
      exact bodyPost_end (v := .tuple #[]) (by simp [results, Tryd.results16]) rfl ⟨rfl, HT2, HKr⟩
/-- add, called with one piece, or with three. -/
theorem add1 {B gT gL : Nat} {F : List UInt8} {w : World} (HT : Hid (Txw w B gT gL F)) (s : ByteArray) (hs : s.size ≤ 1000000) :
    Calls Tryd.prog 16 #[.slice (some ⟨w.heap.size, 0, none⟩) 1 1, .pointer (some ⟨gL, 0, none⟩), .pointer (some ⟨gT, 0, none⟩)] (w.alloc (.cells #[.string s] 9)) fun e w' => e = .returned (.tuple #[]) ∧ Hid (Txw w' B gT gL (F ++ s.data.toList)) ∧ Hid (Kp B w w') := by
  have hB : Below w.heap.size w (w.alloc (.cells #[.string s] 9)) := (Below.refl _ _).alloc (Nat.le_refl _) _
  refine (add_any B gT gL w.heap.size F [s] 1 _ rfl (by decide) (hide_ (HT.out.later hB)) (hide_ (Blk.newA w #[.string s] 9)) (fun p hp => by obtain rfl := List.mem_singleton.1 hp; omega)).mono ?_
  rintro e w' ⟨rfl, h1, h2⟩
  exact ⟨rfl, by have := h1; simpa [catP] using this, hide_ ((Kp.of_below HT.out.size hB).trans h2.out)⟩
theorem add3 {B gT gL : Nat} {F : List UInt8} {w : World} (HT : Hid (Txw w B gT gL F)) (s t u : ByteArray) (hs : s.size ≤ 1000000) (ht : t.size ≤ 1000000) (hu : u.size ≤ 1000000) :
    Calls Tryd.prog 16 #[.slice (some ⟨w.heap.size, 0, none⟩) 3 3, .pointer (some ⟨gL, 0, none⟩), .pointer (some ⟨gT, 0, none⟩)] (w.alloc (.cells #[.string s, .string t, .string u] 9)) fun e w' => e = .returned (.tuple #[]) ∧ Hid (Txw w' B gT gL (F ++ (s.data.toList ++ (t.data.toList ++ u.data.toList)))) ∧ Hid (Kp B w w') := by
  have hB : Below w.heap.size w (w.alloc (.cells #[.string s, .string t, .string u] 9)) := (Below.refl _ _).alloc (Nat.le_refl _) _
  refine (add_any B gT gL w.heap.size F [s, t, u] 3 _ rfl (by decide) (hide_ (HT.out.later hB)) (hide_ (Blk.newA w #[.string s, .string t, .string u] 9)) (fun p hp => by
    simp only [List.mem_cons, List.mem_nil_iff, or_false] at hp
    rcases hp with rfl | rfl | rfl <;> omega)).mono ?_
  rintro e w' ⟨rfl, h1, h2⟩
  exact ⟨rfl, by have := h1; simpa [catP] using this, hide_ ((Kp.of_below HT.out.size hB).trans h2.out)⟩
end Go.Proofs.YtbfmoiaedopeiaaDoor

/- word, head. -/
namespace Go.Proofs.YtbfmoiaedopeiaaDoor
open Go.RowKit
set_option linter.unusedVariables false

theorem d8 : (⟨(Lib.decDigits 8).toArray⟩ : ByteArray) = ⟨#[56]⟩ := by rw [Lib.decDigits_one (by decide)]; rfl
theorem d16 : (⟨(Lib.decDigits 16).toArray⟩ : ByteArray) = ⟨#[49, 54]⟩ := by rw [Lib.decDigits_two (by decide) (by decide)]; rfl
theorem d32 : (⟨(Lib.decDigits 32).toArray⟩ : ByteArray) = ⟨#[51, 50]⟩ := by rw [Lib.decDigits_two (by decide) (by decide)]; rfl
theorem d64 : (⟨(Lib.decDigits 64).toArray⟩ : ByteArray) = ⟨#[54, 52]⟩ := by rw [Lib.decDigits_two (by decide) (by decide)]; rfl
theorem nd_kinds {x : Nd} {of : Int} {dp : Nat} (h : ndE x of dp = 0) : x.k = 1 ∨ x.k = 2 ∨ x.k = 3 ∨ x.k = 4 ∨ x.k = 5 ∨ x.k = 6 ∨ x.k = 7 ∨ x.k = 8 ∨ x.k = 9 := by
  rcases kinds h with ⟨e, _⟩ | ⟨_, _, ⟨e, _⟩ | ⟨e, _⟩ | ⟨e, _⟩ | ⟨e, _⟩⟩ <;> omega
theorem nd_u {x : Nd} {of : Int} {dp : Nat} (h : ndE x of dp = 0) (hk : x.k = 1) : x.n = 1 ∨ x.n = 2 ∨ x.n = 4 ∨ x.n = 8 := by
  obtain ⟨_, h1, _⟩ := nd_ok h
  unfold kindOk at h1
  rw [if_pos hk] at h1
  exact (of_decide_eq_true h1).1
set_option maxRecDepth 100000 in
set_option maxHeartbeats 4000000 in
theorem wordX_any {x : Nd} {of : Int} {dp : Nat} (h : ndE x of dp = 0) (w : World) : Calls Tryd.prog 27 #[ndv x] w fun e w' => e = .returned (.string (wordT x)) ∧ Below w.heap.size w w' := by
  have hk := nd_kinds h
  have hu := nd_u h
  clear h
  obtain ⟨k, n, nm, lb, tg, kd, a⟩ := x
  simp only at hk hu
  have HB : Hid (∀ o, Below w.heap.size w (w.alloc o)) := hide_ (fun o => (Below.refl _ _).alloc (Nat.le_refl _) _)
  unfold ndv
  rcases hk with rfl | rfl | rfl | rfl | rfl | rfl | rfl | rfl | rfl
  · rcases hu rfl with rfl | rfl | rfl | rfl
    · go_enter Tryd.func27, Tryd.ntmps27
      go_wp2_with (go_at_call 28; refine (itoa_c 8 (by decide) ⟨#[56]⟩ d8 _).mono ?_; rintro e w' ⟨rfl, rfl⟩)
      go_ret
      exact ⟨rfl, HB.out _⟩
    · go_enter Tryd.func27, Tryd.ntmps27
      go_wp2_with (go_at_call 28; refine (itoa_c 16 (by decide) ⟨#[49, 54]⟩ d16 _).mono ?_; rintro e w' ⟨rfl, rfl⟩)
      go_ret
      exact ⟨rfl, HB.out _⟩
    · go_enter Tryd.func27, Tryd.ntmps27
      go_wp2_with (go_at_call 28; refine (itoa_c 32 (by decide) ⟨#[51, 50]⟩ d32 _).mono ?_; rintro e w' ⟨rfl, rfl⟩)
      go_ret
      exact ⟨rfl, HB.out _⟩
    · go_enter Tryd.func27, Tryd.ntmps27
      go_wp2_with (go_at_call 28; refine (itoa_c 64 (by decide) ⟨#[54, 52]⟩ d64 _).mono ?_; rintro e w' ⟨rfl, rfl⟩)
      go_ret
      exact ⟨rfl, HB.out _⟩
  all_goals
    clear hu
    go_enter Tryd.func27, Tryd.ntmps27
    go_wp2
    go_ret
    exact ⟨rfl, HB.out _⟩
set_option maxRecDepth 100000 in
set_option maxHeartbeats 4000000 in
theorem head7 (x : Nd) (n : Nat) (hx : x.tag = (n : Int)) (hn : n ≤ 2147483647) (w : World) (ht : Hid (Tab w.heap.size w)) : Calls Tryd.prog 46 #[ndv x, .int .i64 7] w fun e w' => e = .returned (.string ⟨(dec n).toArray⟩) ∧ Below w.heap.size w w' := by
  obtain ⟨k, m, nm, lb, tg, kd, a⟩ := x
  simp only at hx
  subst hx
  have HB : Hid (∀ o, Below w.heap.size w (w.alloc o)) := hide_ (fun o => (Below.refl _ _).alloc (Nat.le_refl _) _)
  unfold ndv
  go_enter Tryd.func46, Tryd.ntmps46
  go_wp2_with fail
  refine (itoa_any n _ hn (ht.out.at (HB.out _))).mono ?_
  rintro e w' ⟨rfl, hB⟩
  have HB2 := hide_ ((HB.out _).trans (hB.mono (HB.out _).size))
  clear hB ht
  go_wp2
  go_ret
  exact ⟨rfl, HB2.out⟩
set_option maxRecDepth 100000 in
set_option maxHeartbeats 4000000 in
theorem head8 (x : Nd) (w : World) : Calls Tryd.prog 46 #[ndv x, .int .i64 8] w fun e w' => e = .returned (.string x.label) ∧ Below w.heap.size w w' := by
  obtain ⟨k, m, nm, lb, tg, kd, a⟩ := x
  have HB : Hid (∀ o, Below w.heap.size w (w.alloc o)) := hide_ (fun o => (Below.refl _ _).alloc (Nat.le_refl _) _)
  unfold ndv
  go_enter Tryd.func46, Tryd.ntmps46
  go_wp2
  go_ret
  exact ⟨rfl, HB.out _⟩
end Go.Proofs.YtbfmoiaedopeiaaDoor

/- The printed form, piece by piece: plain; what addType's call leaves. -/
namespace Go.Proofs.YtbfmoiaedopeiaaDoor
open Go.RowKit
set_option linter.unusedVariables false

/-- The style of the printed form: nothing stands between tokens. -/
def st0 : Sty := ⟨[], [], [], [], [], [], [], []⟩
theorem st0_ok : StyOk st0 := ⟨FillOk.nil, FillOk.nil, FillOk.nil, FillOk.nil, FillOk.nil, FillOk.nil, FillOk.nil, FillOk.nil⟩
theorem wbw (s : ByteArray) : wb (qw s) = s.data.toList := by unfold wb qw; rw [if_neg (by simp)]
theorem wbm (b : UInt8) : wb (qm b) = [b] := by unfold wb qm; rw [if_neg (by simp)]
theorem wbn (n : Int) : wb (qn n) = dec n.toNat := by unfold wb qn; rw [if_pos rfl]
theorem ws_one {st : Sty} {fu d : Nat} {k : Int} {A : List Nd} {P : List (Q × List UInt8)} (h7 : k ≠ 7) (h8 : k ≠ 8) (h : WS st fu d k 1 A P) : ∃ f z A1 PA, f < fu ∧ A = z :: A1 ∧ ndE z k d = 0 ∧ WS st f (d + 1) z.k z.kids.toNat A1 PA ∧ P = opnS st z ++ (PA ++ clsS st z) := by
  cases fu with
  | zero => exact absurd h.1 (by decide)
  | succ f =>
    obtain ⟨x, A1, B, PA, PB, rfl, h2, hA, hB, rfl⟩ := h
    obtain ⟨rfl, rfl⟩ := hB.zero
    refine ⟨f, x, A1, PA, Nat.lt_succ_self _, by simp, h2, hA, ?_⟩
    have e1 : hdS st k x = [] := by unfold hdS; rw [if_neg h7, if_neg h8]
    have e2 : sepS k 0 = [] := by unfold sepS; rw [if_neg (by omega)]
    rw [e1, e2]
    simp
/-- What stands ahead of a part's colon. -/
def hdX (k : Int) (z : Nd) : ByteArray := if k = 7 then ⟨(dec z.tag.toNat).toArray⟩ else z.label
def sp0 (r : Nat) : List UInt8 := if 0 < r then [44] else []
theorem ws_part {fu d r : Nat} {k : Int} {A : List Nd} {P : List (Q × List UInt8)} (hk : k = 7 ∨ k = 8) (h : WS st0 fu d k (r + 1) A P) : ∃ f z A1 B1 PA PB, f < fu ∧ A = z :: (A1 ++ B1) ∧ ndE z k d = 0 ∧ WS st0 f (d + 1) z.k z.kids.toNat A1 PA ∧ WS st0 f d k r B1 PB ∧
    txtP P = (hdX k z).data.toList ++ ([58] ++ (txtP (opnS st0 z ++ (PA ++ clsS st0 z)) ++ (sp0 r ++ txtP PB))) := by
  cases fu with
  | zero => exact absurd h.1 (by omega)
  | succ f =>
    obtain ⟨x, A1, B, PA, PB, rfl, h2, hA, hB, rfl⟩ := h
    refine ⟨f, x, A1, B, PA, PB, Nat.lt_succ_self _, rfl, h2, hA, hB, ?_⟩
    have e1 : txtP (hdS st0 k x) = (hdX k x).data.toList ++ [58] := by
      unfold hdS hdX
      rcases hk with rfl | rfl
      · rw [if_pos rfl, if_pos rfl]; simp [txtP, wbm, wbn, st0]
      · rw [if_neg (by decide), if_pos rfl, if_neg (by decide)]; simp [txtP, wbm, wbw, st0]
    have e2 : txtP (sepS k r) = sp0 r := by
      unfold sepS sp0
      by_cases hr : 0 < r
      · rw [if_pos ⟨hk, hr⟩, if_pos hr]; simp [txtP, wbm]
      · rw [if_neg (fun h => hr h.2), if_neg hr]; rfl
    simp only [txtP_app, e1, e2, List.append_assoc]
def bef (i : Nat) : ByteArray := if i = 0 then ⟨#[123]⟩ else ⟨#[44]⟩
theorem bef_size (i : Nat) : (bef i).size = 1 := by unfold bef; split <;> rfl
/-- The parts of a struct or union, so many of them written. -/
def PtR (k : Int) (d fu n : Nat) (T : List UInt8) (i : Nat) (Rm : List Nd) (Fi : List UInt8) : Prop :=
  (i = n ∧ Fi = T ∧ Rm = []) ∨ (i < n ∧ ∃ f P, f ≤ fu ∧ WS st0 f d k (n - i) Rm P ∧ Fi ++ ((bef i).data.toList ++ txtP P) = T)
theorem PtR.start {k : Int} {d fu n : Nat} {A : List Nd} {P : List (Q × List UInt8)} (F : List UInt8) (hn : 0 < n) (h : WS st0 fu d k n A P) : PtR k d fu n (F ++ ([123] ++ txtP P)) 0 A F := .inr ⟨hn, fu, P, Nat.le_refl _, h, by simp [bef]⟩
theorem PtR.done {k : Int} {d fu n : Nat} {T Fi : List UInt8} {Rm : List Nd} (h : PtR k d fu n T n Rm Fi) : Fi = T ∧ Rm = [] := by
  rcases h with h | h
  · exact h.2
  · exact absurd h.1 (Nat.lt_irrefl _)
theorem PtR.step {k : Int} {d fu n i : Nat} {T Fi : List UInt8} {Rm : List Nd} (hk : k = 7 ∨ k = 8) (h : PtR k d fu n T i Rm Fi) (hi : i < n) : ∃ f z A1 B1 PA, f < fu ∧ Rm = z :: (A1 ++ B1) ∧ ndE z k d = 0 ∧ WS st0 f (d + 1) z.k z.kids.toNat A1 PA ∧
    PtR k d fu n T (i + 1) B1 (Fi ++ ((bef i).data.toList ++ ((hdX k z).data.toList ++ [58])) ++ txtP (opnS st0 z ++ (PA ++ clsS st0 z))) := by
  rcases h with h | ⟨_, f, P, hf, hW, hT⟩
  · omega
  · obtain ⟨r, hr⟩ : ∃ r, n - i = r + 1 := ⟨n - i - 1, by omega⟩
    rw [hr] at hW
    obtain ⟨f', z, A1, B1, PA, PB, h1, h2, h3, h4, h5, h6⟩ := ws_part hk hW
    refine ⟨f', z, A1, B1, PA, by omega, h2, h3, h4, ?_⟩
    rw [h6] at hT
    by_cases hr0 : r = 0
    · subst hr0
      obtain ⟨e1, e2⟩ := h5.zero
      refine .inl ⟨by omega, ?_, e1⟩
      rw [← hT, e2]
      simp [sp0, txtP]
    · refine .inr ⟨by omega, f', PB, by omega, by rw [show n - (i + 1) = r by omega]; exact h5, ?_⟩
      rw [← hT]
      have e : (bef (i + 1)).data.toList = [44] := by unfold bef; rw [if_neg (by omega)]
      rw [e]
      simp [sp0, Nat.pos_of_ne_zero hr0]
/-! ### addType's and addParts' contracts -/
def TyTo (w0 w : World) (gT gL : Nat) (F : List UInt8) (R : List Nd) (cap : Nat) (e : Ending) (w' : World) : Prop :=
  ∃ a' c', e = .returned (.slice a' R.length c') ∧ R.length ≤ c' ∧ c' ≤ cap ∧ Hid (NRow w0 a' R) ∧ Hid (Txw w' w0.heap.size gT gL F) ∧ Hid (Kp w0.heap.size w w')
def TyOk (fu : Nat) : Prop := ∀ (w0 w : World) (gT gL d : Nat) (k : Int) (x : Nd) (A R : List Nd) (PA : List (Q × List UInt8)) (a : Option Addr) (L cap : Nat) (F : List UInt8), ndE x k d = 0 → WS st0 fu (d + 1) x.k x.kids.toNat A PA → (x :: (A ++ R)).length = L → L ≤ cap →
  Hid (NRow w0 a (x :: (A ++ R))) → Hid (Below w0.heap.size w0 w) → Hid (Tab w0.heap.size w0) → Hid (Txw w w0.heap.size gT gL F) →
  Calls Tryd.prog 17 #[.func (.func 16) #[] #[.pointer (some ⟨gL, 0, none⟩), .pointer (some ⟨gT, 0, none⟩)], .slice a L cap] w fun e w' => TyTo w0 w gT gL (F ++ txtP (opnS st0 x ++ (PA ++ clsS st0 x))) R cap e w'
def PtOk (fu : Nat) : Prop := ∀ (w0 w : World) (gT gL d n : Nat) (o : Nd) (A R : List Nd) (PA : List (Q × List UInt8)) (a : Option Addr) (L cap : Nat) (F : List UInt8), (o.k = 7 ∨ o.k = 8) → o.kids = (n : Int) → 0 < n → n ≤ 64 → WS st0 fu d o.k n A PA → (A ++ R).length = L → L ≤ cap →
  Hid (NRow w0 a (A ++ R)) → Hid (Below w0.heap.size w0 w) → Hid (Tab w0.heap.size w0) → Hid (Txw w w0.heap.size gT gL F) →
  Calls Tryd.prog 29 #[.func (.func 16) #[] #[.pointer (some ⟨gL, 0, none⟩), .pointer (some ⟨gT, 0, none⟩)], .slice a L cap, ndv o] w fun e w' => TyTo w0 w gT gL (F ++ ([123] ++ (txtP PA ++ [125]))) R cap e w'
end Go.Proofs.YtbfmoiaedopeiaaDoor

/- addParts, addType. -/
namespace Go.Proofs.YtbfmoiaedopeiaaDoor
open Go.RowKit
set_option linter.unusedVariables false

theorem nd_wsize {x : Nd} {of : Int} {dp : Nat} (h : ndE x of dp = 0) : (wordT x).size ≤ 100 := by
  rcases nd_kinds h with e | e | e | e | e | e | e | e | e
  · rcases nd_u h e with e2 | e2 | e2 | e2 <;> simp [wordT, wordN, e, e2] <;> decide
  · simp [wordT, e]; decide
  · simp [wordT, e]; decide
  · simp [wordT, e]; decide
  · simp [wordT, e]; decide
  · simp [wordT, e]; decide
  · simp [wordT, e]; decide
  · simp [wordT, e]; decide
  · have hn : isName x.name = true := by
      rcases kinds h with ⟨_, _, _, h3⟩ | ⟨h9, _⟩
      · exact h3
      · exact absurd e h9
    have : wordT x = x.name := by simp [wordT, e]
    rw [this]
    obtain ⟨_, h2, _⟩ := of_decide_eq_true hn
    omega
/-! ### The text of a node, kind by kind -/
theorem tx_leaf {x : Nd} (h : x.k = 1 ∨ x.k = 2 ∨ x.k = 3 ∨ x.k = 9) : txtP (opnS st0 x ++ (([] : List (Q × List UInt8)) ++ clsS st0 x)) = (wordT x).data.toList := by
  have e1 : opnS st0 x = [(qw (wordT x), [])] := by unfold opnS; rw [if_neg (by omega), if_neg (by omega)]
  have e2 : clsS st0 x = [] := by unfold clsS; rw [if_neg (by omega), if_neg (by omega), if_neg (by omega)]
  rw [e1, e2]
  simp [txtP, wbw]
theorem tx_list {x : Nd} (h : x.k = 4 ∨ x.k = 5) (P : List (Q × List UInt8)) : txtP (opnS st0 x ++ (P ++ clsS st0 x)) = (wordT x).data.toList ++ ([60] ++ (txtP P ++ ([44] ++ (dec x.n.toNat ++ [62])))) := by
  have e1 : txtP (opnS st0 x) = (wordT x).data.toList ++ [60] := by
    unfold opnS
    rw [if_pos (by omega)]
    by_cases h5 : x.k = 5
    · rw [if_pos h5]; simp [txtP, wbw, wbm, st0]
    · rw [if_neg h5]; simp [txtP, wbw, wbm]
  have e2 : txtP (clsS st0 x) = [44] ++ (dec x.n.toNat ++ [62]) := by
    unfold clsS
    rw [if_pos h]
    simp [txtP, wbm, wbn, st0]
  simp only [txtP_app, e1, e2, List.append_assoc]
theorem tx_opt {x : Nd} (h : x.k = 6) (P : List (Q × List UInt8)) : txtP (opnS st0 x ++ (P ++ clsS st0 x)) = (wordT x).data.toList ++ ([60] ++ (txtP P ++ [62])) := by
  have e1 : txtP (opnS st0 x) = (wordT x).data.toList ++ [60] := by
    unfold opnS
    rw [if_pos (by omega), if_neg (by omega)]
    simp [txtP, wbw, wbm]
  have e2 : txtP (clsS st0 x) = [62] := by
    unfold clsS
    rw [if_neg (by omega), if_pos h]
    simp [txtP, wbm]
  simp only [txtP_app, e1, e2, List.append_assoc]
theorem tx_parts {x : Nd} (h : x.k = 7 ∨ x.k = 8) (P : List (Q × List UInt8)) : txtP (opnS st0 x ++ (P ++ clsS st0 x)) = (wordT x).data.toList ++ ([123] ++ (txtP P ++ [125])) := by
  have e1 : txtP (opnS st0 x) = (wordT x).data.toList ++ [123] := by
    unfold opnS
    rw [if_neg (by omega), if_pos h]
    by_cases h5 : x.k = 8
    · rw [if_pos h5]; simp [txtP, wbw, wbm, st0]
    · rw [if_neg h5]; simp [txtP, wbw, wbm]
  have e2 : txtP (clsS st0 x) = [125] := by
    unfold clsS
    rw [if_neg (by omega), if_neg (by omega), if_pos h]
    simp [txtP, wbm]
  simp only [txtP_app, e1, e2, List.append_assoc]
theorem nd_kids0 {x : Nd} {of : Int} {dp : Nat} (h : ndE x of dp = 0) (hk : x.k = 1 ∨ x.k = 2 ∨ x.k = 3 ∨ x.k = 9) : x.kids = 0 := by
  rcases kinds h with ⟨_, _, e, _⟩ | ⟨_, _, ⟨_, e, _⟩ | ⟨e1, e, _⟩ | ⟨e1, e, _⟩ | ⟨e1, _⟩⟩ <;> omega
theorem nd_kids1 {x : Nd} {of : Int} {dp : Nat} (h : ndE x of dp = 0) (hk : x.k = 4 ∨ x.k = 5 ∨ x.k = 6) : x.kids = 1 := by
  rcases kinds h with ⟨e1, _, e, _⟩ | ⟨_, _, ⟨e1, e, _⟩ | ⟨e1, e, _⟩ | ⟨e1, e, _⟩ | ⟨e1, _⟩⟩ <;> omega
theorem nd_kidsn {x : Nd} {of : Int} {dp : Nat} (h : ndE x of dp = 0) (hk : x.k = 7 ∨ x.k = 8) : ∃ n : Nat, x.kids = (n : Int) ∧ 0 < n ∧ n ≤ 64 := by
  have h2 := (nd_ok h).2.2.2.2.2
  rcases kinds h with ⟨e1, _, e, _⟩ | ⟨_, _, ⟨e1, e, _⟩ | ⟨e1, e, _⟩ | ⟨e1, e, _⟩ | ⟨e1, e, _⟩⟩
  · omega
  · omega
  · omega
  · omega
  · exact ⟨x.kids.toNat, by omega, by omega, by omega⟩
theorem nd_n {x : Nd} {of : Int} {dp : Nat} (h : ndE x of dp = 0) (hk : x.k = 4 ∨ x.k = 5) : ∃ n : Nat, x.n = (n : Int) ∧ n ≤ 2147483647 := by
  have h3 := of_decide_eq_true (nd_num h hk)
  exact ⟨x.n.toNat, by omega, by omega⟩
theorem dec_arr (n : Nat) : (⟨(dec n).toArray⟩ : ByteArray).data.toList = dec n := by simp
theorem dec_size (n : Nat) : (⟨(dec n).toArray⟩ : ByteArray).size ≤ 20 := by rw [Lib.size_eq, dec_arr]; exact dec_len n
set_option maxRecDepth 100000 in
set_option maxHeartbeats 8000000 in
theorem ty_step (fu : Nat) (IH : Hid (∀ f, f < fu → TyOk f)) (HPt : Hid (PtOk fu)) : TyOk fu := by
  intro w0 w gT gL d k x A R PA a L cap F hx hW hL hc HR HB0 HTab HT
  have hws := nd_wsize hx
  have HWd := hide_ (fun w => wordX_any hx w)
  obtain ⟨b, off, rfl, hb, hcell⟩ := (HR.out).open (by simp)
  obtain ⟨off', hsl, hN'⟩ := HR.out.cut hL hc
  have hL1 : (A ++ R).length = L - 1 := by rw [← hL]; simp
  have hLp : 0 < L := by rw [← hL]; simp
  obtain ⟨L1, hL1'⟩ : ∃ m, L - 1 = m := ⟨_, rfl⟩
  obtain ⟨c1, hc1'⟩ : ∃ m, cap - 1 = m := ⟨_, rfl⟩
  have hlc1 : L1 ≤ c1 := by omega
  have hc1c : c1 ≤ cap := by omega
  rw [hL1', hc1'] at hsl
  rw [hL1'] at hL1
  have HL1 := hide_ hL1
  clear hL1 hL1' hc1'
  have g := fun j hj => (HB0.out.cell (p := ⟨b, off + 0 * 7 + j, none⟩) hb).trans (hcell 0 x rfl j hj)
  have n0 := g 0 (by decide); have n1 := g 1 (by decide); have n2 := g 2 (by decide); have n3 := g 3 (by decide); have n4 := g 4 (by decide); have n5 := g 5 (by decide); have n6 := g 6 (by decide)
  simp [ndc] at n0 n1 n2 n3 n4 n5 n6
  have hbw : b < w.heap.size := Nat.lt_of_lt_of_le hb HB0.out.size
  have n0a : ∀ ob, (w.alloc ob).cell? ⟨b, off, none⟩ = _ := fun ob => (cell_al w ob _ _ hbw).trans n0
  have n1a : ∀ ob, (w.alloc ob).cell? ⟨b, off + 1, none⟩ = _ := fun ob => (cell_al w ob _ _ hbw).trans n1
  have n2a : ∀ ob, (w.alloc ob).cell? ⟨b, off + 2, none⟩ = _ := fun ob => (cell_al w ob _ _ hbw).trans n2
  have n3a : ∀ ob, (w.alloc ob).cell? ⟨b, off + 3, none⟩ = _ := fun ob => (cell_al w ob _ _ hbw).trans n3
  have n4a : ∀ ob, (w.alloc ob).cell? ⟨b, off + 4, none⟩ = _ := fun ob => (cell_al w ob _ _ hbw).trans n4
  have n5a : ∀ ob, (w.alloc ob).cell? ⟨b, off + 5, none⟩ = _ := fun ob => (cell_al w ob _ _ hbw).trans n5
  have n6a : ∀ ob, (w.alloc ob).cell? ⟨b, off + 6, none⟩ = _ := fun ob => (cell_al w ob _ _ hbw).trans n6
  have HN' := hide_ hN'
  have Hx := hide_ hx
  have HW := hide_ hW
  clear hcell g hN' hx hW HR hL
  obtain ⟨wA, hwA⟩ : ∃ wA, wA = (w.alloc (.cells #[.int .i64 x.k, .int .i64 x.n, .string x.name, .string x.label, .int .i64 x.tag, .int .i64 x.kids, .int .i64 x.a] 35)).drew := ⟨_, rfl⟩
  have KA : Blk wA w.heap.size 35 [.int .i64 x.k, .int .i64 x.n, .string x.name, .string x.label, .int .i64 x.tag, .int .i64 x.kids, .int .i64 x.a] := by rw [hwA]; exact (Blk.newA w #[.int .i64 x.k, .int .i64 x.n, .string x.name, .string x.label, .int .i64 x.tag, .int .i64 x.kids, .int .i64 x.a] 35).drew
  have hBA : Below w.heap.size w wA := by rw [hwA]; exact ((Below.refl _ _).alloc (Nat.le_refl _) _).drew
  have HTA := hide_ (HT.out.later hBA)
  have HKA := hide_ (Kp.of_below HB0.out.size hBA)
  have HKb := hide_ KA
  clear KA hBA HT
  go_enter Tryd.func17, Tryd.ntmps17
  go_wp2_with fail
  go_region
  rw [← hwA]
  clear hwA n0 n0a n1 n1a n2 n2a n3 n3a n4 n4a n5 n5a n6 n6a
  have u0 := HKb.out.cell 0; have u1 := HKb.out.cell 1; have u2 := HKb.out.cell 2; have u3 := HKb.out.cell 3; have u4 := HKb.out.cell 4; have u5 := HKb.out.cell 5; have u6 := HKb.out.cell 6
  simp at u0 u1 u2 u3 u4 u5 u6
  go_wp2_with fail
  refine (HWd.out wA).mono ?_; rintro e w1 ⟨rfl, hB1⟩
  have HT1 := hide_ (HTA.out.later hB1)
  have HK1 := hide_ (HKA.out.trans (Kp.of_below HTA.out.size hB1))
  have HKb1 := hide_ (HKb.out.later hB1)
  clear u0 u1 u2 u3 u4 u5 u6 hB1 HTA HKA HKb HWd
  go_wp2_with fail
  refine (add1 HT1 (wordT x) (by omega)).mono ?_; rintro e w2 ⟨rfl, HT2, HK2'⟩
  have HKb2 := hide_ (HK2'.out.2 _ _ _ (by decide) (by decide) (by decide) HKb1.out)
  have HK2 := hide_ (HK1.out.trans HK2'.out)
  have HB2 := hide_ (HB0.out.trans HK2.out.1)
  clear HT1 HK1 HKb1 HK2'
  have y0 := HKb2.out.cell 0
  simp at y0
  rcases nd_kinds Hx.out with hk | hk | hk | hk | hk | hk | hk | hk | hk
  · have hk0 := nd_kids0 Hx.out (by omega)
    have hWz := HW.out
    rw [hk0] at hWz
    obtain ⟨hA, hPA⟩ := WS.zero hWz
    rw [hk] at y0
    have HF : Hid (F ++ (wordT x).data.toList = F ++ txtP (opnS st0 x ++ (PA ++ clsS st0 x))) := hide_ (by rw [hPA, tx_leaf (by omega)])
    have HR' : Hid (L1 = R.length) := hide_ (by rw [← HL1.out, hA]; rfl)
    have HNr : Hid (NRow w0 (some ⟨b, off', none⟩) R) := hide_ (by have := HN'.out; rw [hA] at this; exact this)
    clear hA hPA hk0 hWz hk
    go_wp2
    go_ret
    exact ⟨_, c1, by rw [← HR'.out]; rfl, by rw [← HR'.out]; exact hlc1, hc1c, HNr, by rw [← HF.out]; exact HT2, HK2⟩
  · have hk0 := nd_kids0 Hx.out (by omega)
    have hWz := HW.out
    rw [hk0] at hWz
    obtain ⟨hA, hPA⟩ := WS.zero hWz
    rw [hk] at y0
    have HF : Hid (F ++ (wordT x).data.toList = F ++ txtP (opnS st0 x ++ (PA ++ clsS st0 x))) := hide_ (by rw [hPA, tx_leaf (by omega)])
    have HR' : Hid (L1 = R.length) := hide_ (by rw [← HL1.out, hA]; rfl)
    have HNr : Hid (NRow w0 (some ⟨b, off', none⟩) R) := hide_ (by have := HN'.out; rw [hA] at this; exact this)
    clear hA hPA hk0 hWz hk
    go_wp2
    go_ret
    exact ⟨_, c1, by rw [← HR'.out]; rfl, by rw [← HR'.out]; exact hlc1, hc1c, HNr, by rw [← HF.out]; exact HT2, HK2⟩
  · have hk0 := nd_kids0 Hx.out (by omega)
    have hWz := HW.out
    rw [hk0] at hWz
    obtain ⟨hA, hPA⟩ := WS.zero hWz
    rw [hk] at y0
    have HF : Hid (F ++ (wordT x).data.toList = F ++ txtP (opnS st0 x ++ (PA ++ clsS st0 x))) := hide_ (by rw [hPA, tx_leaf (by omega)])
    have HR' : Hid (L1 = R.length) := hide_ (by rw [← HL1.out, hA]; rfl)
    have HNr : Hid (NRow w0 (some ⟨b, off', none⟩) R) := hide_ (by have := HN'.out; rw [hA] at this; exact this)
    clear hA hPA hk0 hWz hk
    go_wp2
    go_ret
    exact ⟨_, c1, by rw [← HR'.out]; rfl, by rw [← HR'.out]; exact hlc1, hc1c, HNr, by rw [← HF.out]; exact HT2, HK2⟩
  · have hk1 := nd_kids1 Hx.out (by omega)
    obtain ⟨m, hm, hm31⟩ := nd_n Hx.out (by omega)
    have hWz := HW.out
    rw [hk1] at hWz
    obtain ⟨f, z, A1, PA1, hf, hA, hz, hW1, hPA⟩ := ws_one (by omega) (by omega) hWz
    rw [hk] at y0
    have HIH := hide_ (fun w3 HB3 HT3 => IH.out f hf w0 w3 gT gL (d + 1) x.k z A1 R PA1 (some ⟨b, off', none⟩) L1 c1 (F ++ (wordT x).data.toList ++ [60]) hz hW1 (by rw [← HL1.out, hA]; rfl) hlc1 (hide_ (by have := HN'.out; rw [hA] at this; exact this)) HB3 HTab HT3)
    have HF : Hid (F ++ (wordT x).data.toList ++ [60] ++ txtP PA ++ ([44] ++ (dec m ++ [62])) = F ++ txtP (opnS st0 x ++ (PA ++ clsS st0 x))) := hide_ (by rw [tx_list (by omega), hm, Int.toNat_natCast]; simp)
    have HPA := hide_ (congrArg txtP hPA)
    have HIt := hide_ (fun (w4 : World) (h4 : Below w0.heap.size w0 w4) => itoa_any m w4 hm31 (HTab.out.at h4))
    have hms := dec_size m
    have Hds := hide_ (dec_arr m)
    generalize (⟨(dec m).toArray⟩ : ByteArray) = ds at *
    have Hm := hide_ hm
    clear hA hPA hz hW1 hWz hk1 hf hm
    go_wp2_with fail
    refine (add1 HT2 ⟨#[60]⟩ (by decide)).mono ?_; rintro e w3 ⟨rfl, HT3, HK3'⟩
    have HKb3 := hide_ (HK3'.out.2 _ _ _ (by decide) (by decide) (by decide) HKb2.out)
    have HK3 := hide_ (HK2.out.trans HK3'.out)
    have HB3 := hide_ (HB2.out.trans HK3'.out.1)
    clear HT2 HK2 HKb2 HK3' HB2 y0
    go_wp2_with fail
    refine (HIH.out w3 HB3 HT3).mono ?_; rintro e w4 ⟨a4, c4, rfl, hl4, hcc4, HN4, HT4, HK4'⟩
    have HKb4 := hide_ (HK4'.out.2 _ _ _ (by decide) (by decide) (by decide) HKb3.out)
    have HK4 := hide_ (HK3.out.trans HK4'.out)
    have HB4 := hide_ (HB3.out.trans HK4'.out.1)
    rw [← HPA.out] at HT4
    clear HT3 HK3 HKb3 HK4' HB3 HIH
    have y1 := HKb4.out.cell 1
    simp at y1
    rw [Hm.out] at y1
    go_wp2_with fail
    refine (HIt.out w4 HB4.out).mono ?_; rintro e w5 ⟨rfl, hB5⟩
    have HT5 := hide_ (HT4.out.later hB5)
    have HK5 := hide_ (HK4.out.trans (Kp.of_below HT4.out.size hB5))
    clear HT4 HK4 hB5 HIt y1
    go_wp2_with fail
    refine (add3 HT5 ⟨#[44]⟩ ds ⟨#[62]⟩ (by decide) (by omega) (by decide)).mono ?_; rintro e w6 ⟨rfl, HT6, HK6'⟩
    have HK6 := hide_ (HK5.out.trans HK6'.out)
    have HT7 : Hid (Txw w6 w0.heap.size gT gL (F ++ txtP (opnS st0 x ++ (PA ++ clsS st0 x)))) := hide_ (by have := HT6.out; rw [Hds.out] at this; rw [← HF.out]; exact this)
    clear HT6 HK6' HK5 HT5
    go_wp2
    go_ret
    exact ⟨a4, c4, rfl, hl4, by omega, HN4, HT7, HK6⟩
  · have hk1 := nd_kids1 Hx.out (by omega)
    obtain ⟨m, hm, hm31⟩ := nd_n Hx.out (by omega)
    have hWz := HW.out
    rw [hk1] at hWz
    obtain ⟨f, z, A1, PA1, hf, hA, hz, hW1, hPA⟩ := ws_one (by omega) (by omega) hWz
    rw [hk] at y0
    have HIH := hide_ (fun w3 HB3 HT3 => IH.out f hf w0 w3 gT gL (d + 1) x.k z A1 R PA1 (some ⟨b, off', none⟩) L1 c1 (F ++ (wordT x).data.toList ++ [60]) hz hW1 (by rw [← HL1.out, hA]; rfl) hlc1 (hide_ (by have := HN'.out; rw [hA] at this; exact this)) HB3 HTab HT3)
    have HF : Hid (F ++ (wordT x).data.toList ++ [60] ++ txtP PA ++ ([44] ++ (dec m ++ [62])) = F ++ txtP (opnS st0 x ++ (PA ++ clsS st0 x))) := hide_ (by rw [tx_list (by omega), hm, Int.toNat_natCast]; simp)
    have HPA := hide_ (congrArg txtP hPA)
    have HIt := hide_ (fun (w4 : World) (h4 : Below w0.heap.size w0 w4) => itoa_any m w4 hm31 (HTab.out.at h4))
    have hms := dec_size m
    have Hds := hide_ (dec_arr m)
    generalize (⟨(dec m).toArray⟩ : ByteArray) = ds at *
    have Hm := hide_ hm
    clear hA hPA hz hW1 hWz hk1 hf hm
    go_wp2_with fail
    refine (add1 HT2 ⟨#[60]⟩ (by decide)).mono ?_; rintro e w3 ⟨rfl, HT3, HK3'⟩
    have HKb3 := hide_ (HK3'.out.2 _ _ _ (by decide) (by decide) (by decide) HKb2.out)
    have HK3 := hide_ (HK2.out.trans HK3'.out)
    have HB3 := hide_ (HB2.out.trans HK3'.out.1)
    clear HT2 HK2 HKb2 HK3' HB2 y0
    go_wp2_with fail
    refine (HIH.out w3 HB3 HT3).mono ?_; rintro e w4 ⟨a4, c4, rfl, hl4, hcc4, HN4, HT4, HK4'⟩
    have HKb4 := hide_ (HK4'.out.2 _ _ _ (by decide) (by decide) (by decide) HKb3.out)
    have HK4 := hide_ (HK3.out.trans HK4'.out)
    have HB4 := hide_ (HB3.out.trans HK4'.out.1)
    rw [← HPA.out] at HT4
    clear HT3 HK3 HKb3 HK4' HB3 HIH
    have y1 := HKb4.out.cell 1
    simp at y1
    rw [Hm.out] at y1
    go_wp2_with fail
    refine (HIt.out w4 HB4.out).mono ?_; rintro e w5 ⟨rfl, hB5⟩
    have HT5 := hide_ (HT4.out.later hB5)
    have HK5 := hide_ (HK4.out.trans (Kp.of_below HT4.out.size hB5))
    clear HT4 HK4 hB5 HIt y1
    go_wp2_with fail
    refine (add3 HT5 ⟨#[44]⟩ ds ⟨#[62]⟩ (by decide) (by omega) (by decide)).mono ?_; rintro e w6 ⟨rfl, HT6, HK6'⟩
    have HK6 := hide_ (HK5.out.trans HK6'.out)
    have HT7 : Hid (Txw w6 w0.heap.size gT gL (F ++ txtP (opnS st0 x ++ (PA ++ clsS st0 x)))) := hide_ (by have := HT6.out; rw [Hds.out] at this; rw [← HF.out]; exact this)
    clear HT6 HK6' HK5 HT5
    go_wp2
    go_ret
    exact ⟨a4, c4, rfl, hl4, by omega, HN4, HT7, HK6⟩
  · have hk1 := nd_kids1 Hx.out (by omega)
    have hWz := HW.out
    rw [hk1] at hWz
    obtain ⟨f, z, A1, PA1, hf, hA, hz, hW1, hPA⟩ := ws_one (by omega) (by omega) hWz
    rw [hk] at y0
    have HIH := hide_ (fun w3 HB3 HT3 => IH.out f hf w0 w3 gT gL (d + 1) x.k z A1 R PA1 (some ⟨b, off', none⟩) L1 c1 (F ++ (wordT x).data.toList ++ [60]) hz hW1 (by rw [← HL1.out, hA]; rfl) hlc1 (hide_ (by have := HN'.out; rw [hA] at this; exact this)) HB3 HTab HT3)
    have HF : Hid (F ++ (wordT x).data.toList ++ [60] ++ txtP PA ++ [62] = F ++ txtP (opnS st0 x ++ (PA ++ clsS st0 x))) := hide_ (by rw [tx_opt (by omega)]; simp)
    have HPA := hide_ (congrArg txtP hPA)
    clear hA hPA hz hW1 hWz hk1 hf
    go_wp2_with fail
    refine (add1 HT2 ⟨#[60]⟩ (by decide)).mono ?_; rintro e w3 ⟨rfl, HT3, HK3'⟩
    have HK3 := hide_ (HK2.out.trans HK3'.out)
    have HB3 := hide_ (HB2.out.trans HK3'.out.1)
    clear HT2 HK2 HKb2 HK3' HB2 y0
    go_wp2_with fail
    refine (HIH.out w3 HB3 HT3).mono ?_; rintro e w4 ⟨a4, c4, rfl, hl4, hcc4, HN4, HT4, HK4'⟩
    have HK4 := hide_ (HK3.out.trans HK4'.out)
    rw [← HPA.out] at HT4
    clear HT3 HK3 HK4' HB3 HIH
    go_wp2_with fail
    refine (add1 HT4 ⟨#[62]⟩ (by decide)).mono ?_; rintro e w6 ⟨rfl, HT6, HK6'⟩
    have HK6 := hide_ (HK4.out.trans HK6'.out)
    have HT7 : Hid (Txw w6 w0.heap.size gT gL (F ++ txtP (opnS st0 x ++ (PA ++ clsS st0 x)))) := hide_ (by rw [← HF.out]; exact HT6.out)
    clear HT6 HK6' HK4 HT4
    go_wp2
    go_ret
    exact ⟨a4, c4, rfl, hl4, by omega, HN4, HT7, HK6⟩
  · obtain ⟨n, hkn, hn0, hn64⟩ := nd_kidsn Hx.out (by omega)
    have hWz := HW.out
    rw [hkn, Int.toNat_natCast] at hWz
    have HPc := hide_ (HPt.out w0 w2 gT gL (d + 1) n x A R PA (some ⟨b, off', none⟩) L1 c1 (F ++ (wordT x).data.toList) (by omega) hkn hn0 hn64 hWz HL1.out hlc1 HN' HB2 HTab HT2)
    have HF : Hid (F ++ (wordT x).data.toList ++ ([123] ++ (txtP PA ++ [125])) = F ++ txtP (opnS st0 x ++ (PA ++ clsS st0 x))) := hide_ (by rw [tx_parts (by omega)]; simp)
    have u0 := HKb2.out.cell 0; have u1 := HKb2.out.cell 1; have u2 := HKb2.out.cell 2; have u3 := HKb2.out.cell 3; have u4 := HKb2.out.cell 4; have u5 := HKb2.out.cell 5; have u6 := HKb2.out.cell 6
    simp at u0 u1 u2 u3 u4 u5 u6
    rw [hk] at u0 y0
    have HPc2 : Hid (Calls Tryd.prog 29 #[.func (.func 16) #[] #[.pointer (some ⟨gL, 0, none⟩), .pointer (some ⟨gT, 0, none⟩)], .slice (some ⟨b, off', none⟩) L1 c1, .agg #[.int .i64 7, .int .i64 x.n, .string x.name, .string x.label, .int .i64 x.tag, .int .i64 x.kids, .int .i64 x.a]] w2 fun e w' => TyTo w0 w2 gT gL (F ++ (wordT x).data.toList ++ ([123] ++ (txtP PA ++ [125]))) R c1 e w') := by
      have h := HPc
      unfold ndv at h
      rw [hk] at h
      exact h
    clear hkn hWz hk HPc
    go_wp2_with fail
    refine HPc2.out.mono ?_; rintro e w3 ⟨a4, c4, rfl, hl4, hcc4, HN4, HT4, HK4'⟩
    have HK4 := hide_ (HK2.out.trans HK4'.out)
    have HT7 : Hid (Txw w3 w0.heap.size gT gL (F ++ txtP (opnS st0 x ++ (PA ++ clsS st0 x)))) := hide_ (by rw [← HF.out]; exact HT4.out)
    clear HT4 HK4' HPc2 u0 u1 u2 u3 u4 u5 u6 y0
    go_wp2
    go_ret
    exact ⟨a4, c4, rfl, hl4, by omega, HN4, HT7, HK4⟩
  · obtain ⟨n, hkn, hn0, hn64⟩ := nd_kidsn Hx.out (by omega)
    have hWz := HW.out
    rw [hkn, Int.toNat_natCast] at hWz
    have HPc := hide_ (HPt.out w0 w2 gT gL (d + 1) n x A R PA (some ⟨b, off', none⟩) L1 c1 (F ++ (wordT x).data.toList) (by omega) hkn hn0 hn64 hWz HL1.out hlc1 HN' HB2 HTab HT2)
    have HF : Hid (F ++ (wordT x).data.toList ++ ([123] ++ (txtP PA ++ [125])) = F ++ txtP (opnS st0 x ++ (PA ++ clsS st0 x))) := hide_ (by rw [tx_parts (by omega)]; simp)
    have u0 := HKb2.out.cell 0; have u1 := HKb2.out.cell 1; have u2 := HKb2.out.cell 2; have u3 := HKb2.out.cell 3; have u4 := HKb2.out.cell 4; have u5 := HKb2.out.cell 5; have u6 := HKb2.out.cell 6
    simp at u0 u1 u2 u3 u4 u5 u6
    rw [hk] at u0 y0
    have HPc2 : Hid (Calls Tryd.prog 29 #[.func (.func 16) #[] #[.pointer (some ⟨gL, 0, none⟩), .pointer (some ⟨gT, 0, none⟩)], .slice (some ⟨b, off', none⟩) L1 c1, .agg #[.int .i64 8, .int .i64 x.n, .string x.name, .string x.label, .int .i64 x.tag, .int .i64 x.kids, .int .i64 x.a]] w2 fun e w' => TyTo w0 w2 gT gL (F ++ (wordT x).data.toList ++ ([123] ++ (txtP PA ++ [125]))) R c1 e w') := by
      have h := HPc
      unfold ndv at h
      rw [hk] at h
      exact h
    clear hkn hWz hk HPc
    go_wp2_with fail
    refine HPc2.out.mono ?_; rintro e w3 ⟨a4, c4, rfl, hl4, hcc4, HN4, HT4, HK4'⟩
    have HK4 := hide_ (HK2.out.trans HK4'.out)
    have HT7 : Hid (Txw w3 w0.heap.size gT gL (F ++ txtP (opnS st0 x ++ (PA ++ clsS st0 x)))) := hide_ (by rw [← HF.out]; exact HT4.out)
    clear HT4 HK4' HPc2 u0 u1 u2 u3 u4 u5 u6 y0
    go_wp2
    go_ret
    exact ⟨a4, c4, rfl, hl4, by omega, HN4, HT7, HK4⟩
  · have hk0 := nd_kids0 Hx.out (by omega)
    have hWz := HW.out
    rw [hk0] at hWz
    obtain ⟨hA, hPA⟩ := WS.zero hWz
    rw [hk] at y0
    have HF : Hid (F ++ (wordT x).data.toList = F ++ txtP (opnS st0 x ++ (PA ++ clsS st0 x))) := hide_ (by rw [hPA, tx_leaf (by omega)])
    have HR' : Hid (L1 = R.length) := hide_ (by rw [← HL1.out, hA]; rfl)
    have HNr : Hid (NRow w0 (some ⟨b, off', none⟩) R) := hide_ (by have := HN'.out; rw [hA] at this; exact this)
    clear hA hPA hk0 hWz hk
    go_wp2
    go_ret
    exact ⟨_, c1, by rw [← HR'.out]; rfl, by rw [← HR'.out]; exact hlc1, hc1c, HNr, by rw [← HF.out]; exact HT2, HK2⟩
end Go.Proofs.YtbfmoiaedopeiaaDoor

/- addParts. -/
namespace Go.Proofs.YtbfmoiaedopeiaaDoor
open Go.RowKit
set_option linter.unusedVariables false

theorem bef_succ (i : Nat) : (⟨#[44]⟩ : ByteArray) = bef (i + 1) := by unfold bef; rw [if_neg (by omega)]
theorem hd_size {k : Int} {z : Nd} {d : Nat} (h : ndE z k d = 0) (hk : k = 7 ∨ k = 8) : (hdX k z).size ≤ 100 := by
  unfold hdX
  rcases hk with rfl | rfl
  · rw [if_pos rfl]; have := dec_size z.tag.toNat; omega
  · rw [if_neg (by decide)]
    have hn : isName z.label = true := (nd_ok h).2.2.2.1
    obtain ⟨_, h2, _⟩ := of_decide_eq_true hn
    omega
theorem head_any {k : Int} {z : Nd} {d : Nat} (h : ndE z k d = 0) (hk : k = 7 ∨ k = 8) (w : World) (ht : Tab w.heap.size w) : Calls Tryd.prog 46 #[ndv z, .int .i64 k] w fun e w' => e = .returned (.string (hdX k z)) ∧ Below w.heap.size w w' := by
  unfold hdX
  rcases hk with rfl | rfl
  · have h3 := of_decide_eq_true (nd_tag h)
    rw [if_pos rfl]
    exact head7 z z.tag.toNat (by omega) (by omega) w (hide_ ht)
  · rw [if_neg (by decide)]
    exact head8 z w
set_option maxRecDepth 100000 in
set_option maxHeartbeats 8000000 in
theorem pt_step (fu : Nat) (IH : Hid (∀ f, f < fu → TyOk f)) : PtOk fu := by
  intro w0 w gT gL d n x A R PA a L cap F hok hkn hn0 hn64 hW hL hc HR HB0 HTab HT
  have HS0 := hide_ (PtR.start F hn0 hW)
  obtain ⟨T, hT⟩ : ∃ T, F ++ ([123] ++ txtP PA) = T := ⟨_, rfl⟩
  have HTT := hide_ hT
  rw [hT] at HS0
  have HL := hide_ hL
  have Hkn := hide_ hkn
  clear hT hW hL hkn
  have Hok := hide_ hok
  clear hok
  obtain ⟨wA, hwA⟩ : ∃ wA, wA = w.alloc (.cells #[.int .i64 x.k, .int .i64 x.n, .string x.name, .string x.label, .int .i64 x.tag, .int .i64 x.kids, .int .i64 x.a] 35) := ⟨_, rfl⟩
  have KA : Blk wA w.heap.size 35 [.int .i64 x.k, .int .i64 x.n, .string x.name, .string x.label, .int .i64 x.tag, .int .i64 x.kids, .int .i64 x.a] := by rw [hwA]; exact Blk.newA w #[.int .i64 x.k, .int .i64 x.n, .string x.name, .string x.label, .int .i64 x.tag, .int .i64 x.kids, .int .i64 x.a] 35
  have hBA : Below w.heap.size w wA := by rw [hwA]; exact (Below.refl _ _).alloc (Nat.le_refl _) _
  have HTA := hide_ (HT.out.later hBA)
  have HKA := hide_ (Kp.of_below HB0.out.size hBA)
  have HKb := hide_ KA
  clear KA hBA HT
  have hkk : ∃ kk : Int, x.k = kk := ⟨_, rfl⟩
  unfold ndv
  go_enter Tryd.func29, Tryd.ntmps29
  go_upto_region 1 with fail
  rw [← hwA]
  clear hwA
  have y5 := HKb.out.cell 5
  simp at y5
  rw [Hkn.out] at y5
  go_wp2_with fail
  clear y5
  go_loopw [1, 7, 10] (fun x1 x7 x10 wr => ∃ (i : Nat) (Rm : List Nd) (a' : Option Addr) (l' c' : Nat) (Fi : List UInt8) (bs : ByteArray), i ≤ n ∧ x10 = .int .i64 (i : Int) ∧ x7 = .string bs ∧ x1 = .slice a' l' c' ∧ l' ≤ c' ∧ c' ≤ cap ∧ Hid ((Rm ++ R).length = l') ∧ Hid (bs = bef i) ∧ Hid (NRow w0 a' (Rm ++ R)) ∧ Hid (PtR x.k d fu n T i Rm Fi) ∧ Hid (Txw wr w0.heap.size gT gL Fi) ∧ Hid (Kp w0.heap.size w wr) ∧ Hid (Blk wr w.heap.size 35 [.int .i64 x.k, .int .i64 x.n, .string x.name, .string x.label, .int .i64 x.tag, .int .i64 x.kids, .int .i64 x.a])) (fun _ _ x10 _ => n - (intOf x10).toNat)
  case atStart => exact ⟨0, A, a, L, cap, F, ⟨#[123]⟩, Nat.zero_le _, rfl, rfl, rfl, hc, Nat.le_refl _, HL, hide_ rfl, HR, HS0, HTA, HKA, HKb⟩
  case round =>
    clear HS0 HTA HKA HKb HR HL
    obtain ⟨i, Rm, a', l', c', Fi, bs, hi, rfl, rfl, rfl, hlc, hcc, HL, Hbs, HR, HS, HT, HK, HKb⟩ := hrel
    generalize wr = wq at *
    have HB1 := hide_ (HB0.out.trans HK.out.1)
    by_cases hlt : i < n
    · have hlt' : (i : Int) < n := by omega
      obtain ⟨f, z, A1, B1, PA1, hf, hRm, hz, hW1, hS2⟩ := HS.out.step Hok.out hlt
      subst hRm
      have hbsz : bs.size = 1 := by rw [Hbs.out]; exact bef_size i
      have hhs := hd_size hz Hok.out
      have HHd := hide_ (fun (w4 : World) (h4 : Below w0.heap.size w0 w4) => head_any hz Hok.out w4 (HTab.out.at h4))
      have HS2 := hide_ hS2
      have Hz := hide_ hz
      have HW1 := hide_ hW1
      have Hf := hide_ hf
      clear hS2 hz hW1 hf HS
      generalize hdX x.k z = hs at *
      have hl0 : 0 < l' := by rw [← HL.out]; simp
      obtain ⟨b, off, rfl, hb, hcell⟩ := HR.out.open (by simp)
      have g := fun j hj => (HB1.out.cell (p := ⟨b, off + 0 * 7 + j, none⟩) hb).trans (hcell 0 z (by simp) j hj)
      have n0 := g 0 (by decide); have n1 := g 1 (by decide); have n2 := g 2 (by decide); have n3 := g 3 (by decide); have n4 := g 4 (by decide); have n5 := g 5 (by decide); have n6 := g 6 (by decide)
      simp [ndc] at n0 n1 n2 n3 n4 n5 n6
      have y0 := HKb.out.cell 0
      simp at y0
      have HHq := hide_ (HHd.out wq HB1.out)
      clear hcell g
      go_upto_region 4 with fail
      have HTd : Hid (Txw wq.drew w0.heap.size gT gL Fi) := hide_ (HT.out.later ((Below.refl _ _).drew))
      have HBd : Hid (Below w0.heap.size w0 wq.drew) := hide_ HB1.out.drew
      have HNx : Hid (NRow w0 (some ⟨b, off, none⟩) (z :: (A1 ++ (B1 ++ R)))) := hide_ (by have := HR.out; simpa using this)
      have HLx : Hid ((z :: (A1 ++ (B1 ++ R))).length = l') := hide_ (by rw [← HL.out]; simp)
      clear HR HL
      go_region_with (first | (go_at_call 46; refine (HHd.out _ HBd.out).mono ?_; rintro e w2 ⟨rfl, hB2⟩; (have HT2 := hide_ (HTd.out.later hB2)); (have HB2 := hide_ hB2); (clear hB2)) | (go_at_call 16; refine (add3 HT2 bs hs ⟨#[58]⟩ (by omega) (by omega) (by decide)).mono ?_; rintro e w3 ⟨rfl, HT3, HK3⟩))
      all_goals
        have HBq2 : Hid (Below wq.heap.size wq w2) := hide_ (((Below.refl _ _).drew).trans HB2.out)
        have HKq2 := hide_ (HK.out.trans (Kp.of_below HT.out.size HBq2.out))
        have HK3' := hide_ (HKq2.out.trans HK3.out)
        have HB3 := hide_ (HB0.out.trans HK3'.out.1)
        have HKb3 := hide_ (HK3.out.2 _ _ _ (by decide) (by decide) (by decide) (HKb.out.later HBq2.out))
        have HIH := hide_ (IH.out f Hf.out w0 w3 gT gL d x.k z A1 (B1 ++ R) PA1 (some ⟨b, off, none⟩) l' c' _ Hz.out HW1.out HLx.out hlc HNx HB3 HTab HT3)
        clear HHd HHq HTd HBd HT2 HB2 HBq2 HKq2 HK3 HT3 HT HK HKb n0 n1 n2 n3 n4 n5 n6 y0 HB1
        go_wp2_with fail
        refine HIH.out.mono ?_; rintro e w4 ⟨a4, c4, rfl, hl4, hcc4, HN4, HT4, HK4⟩
        have HK5 := hide_ (HK3'.out.trans HK4.out)
        have HKb5 := hide_ (HK4.out.2 _ _ _ (by decide) (by decide) (by decide) HKb3.out)
        have HS3 : Hid (PtR x.k d fu n T (i + 1) B1 (Fi ++ (bs.data.toList ++ (hs.data.toList ++ (⟨#[58]⟩ : ByteArray).data.toList)) ++ txtP (opnS st0 z ++ (PA1 ++ clsS st0 z)))) := hide_ (by rw [Hbs.out]; exact HS2.out)
        clear HIH HK3' HKb3 HK4 HS2
        go_wp2
        go_roundw
        case rel => exact ⟨i + 1, B1, a4, _, c4, _, ⟨#[44]⟩, by omega, by go_num, rfl, rfl, by have := hl4; rw [List.length_append] at this; exact this, by omega, hide_ (by rw [List.length_append]), hide_ (bef_succ i), HN4, HS3, HT4, HK5, HKb5⟩
        case measure => simp [intOf]; omega
    · obtain rfl : i = n := by omega
      obtain ⟨hFi, hRm⟩ := HS.out.done
      subst hFi hRm
      have HL2 : Hid (R.length = l') := hide_ (by have := HL.out; simpa using this)
      clear HS
      go_wp2_with fail
      refine (add1 HT ⟨#[125]⟩ (by decide)).mono ?_; rintro e w2 ⟨rfl, HT2, HK2'⟩
      have HK2 := hide_ (HK.out.trans HK2'.out)
      have HT3 : Hid (Txw w2 w0.heap.size gT gL (F ++ ([123] ++ (txtP PA ++ [125])))) := hide_ (by
        have h := HT2.out
        rw [← HTT.out] at h
        have e : F ++ ([123] ++ txtP PA) ++ (⟨#[125]⟩ : ByteArray).data.toList = F ++ ([123] ++ (txtP PA ++ [125])) := by simp
        rw [e] at h
        exact h)
      clear HT HT2 HK HK2'
      go_wp2
      go_ret
      exact ⟨a', c', by rw [HL2.out]; rfl, by rw [HL2.out]; exact hlc, hcc, hide_ (by have := HR.out; simpa using this), HT3, HK2⟩
end Go.Proofs.YtbfmoiaedopeiaaDoor

/- Print: what it answers; its walk. -/
namespace Go.Proofs.YtbfmoiaedopeiaaDoor
open Go.RowKit
set_option linter.unusedVariables false

theorem pt_any (fu : Nat) (IH : ∀ f, f < fu → TyOk f) : PtOk fu := pt_step fu (hide_ IH)
theorem ty_any (fu : Nat) : TyOk fu := Nat.strongRecOn fu (fun f ih => ty_step f (hide_ ih) (hide_ (pt_any f ih)))
/-- The text of a source, or the error. -/
def PrT (D : List Df) (X : ByteArray) (c : Int) : Prop :=
  ((ckP D).2.2 ≠ 0 ∧ X = ⟨#[]⟩ ∧ c = (ckP D).2.2) ∨ ((ckP D).2.2 = 0 ∧ ∃ P, WDS st0 D P ∧ ((65536 < (txtP P).length ∧ X = ⟨#[]⟩ ∧ c = 4) ∨ ((txtP P).length ≤ 65536 ∧ X = ⟨(txtP P).toArray⟩ ∧ c = 0)))
/-- Definitions one by one. -/
def DpR (D : List Df) (T : List UInt8) (i : Nat) (Fi : List UInt8) : Prop := ∃ P, WDS st0 (D.drop i) P ∧ Fi ++ txtP P = T
theorem DpR.done {D : List Df} {T Fi : List UInt8} (h : DpR D T D.length Fi) : Fi = T := by
  obtain ⟨P, h1, h2⟩ := h
  rw [List.drop_length] at h1
  have h1' : P = [] := h1
  subst h1'
  simpa [txtP] using h2
theorem DpR.step {D : List Df} {T Fi : List UInt8} {i : Nat} {d : Df} (h : DpR D T i Fi) (hd : D[i]? = some d) : ∃ f z A1 PA, d.ty = z :: (A1 ++ []) ∧ ndE z 0 0 = 0 ∧ WS st0 f 1 z.k z.kids.toNat A1 PA ∧
    DpR D T (i + 1) (Fi ++ ((⟨#[116, 121, 112, 101, 32]⟩ : ByteArray).data.toList ++ (d.name.data.toList ++ (⟨#[61]⟩ : ByteArray).data.toList)) ++ txtP (opnS st0 z ++ (PA ++ clsS st0 z)) ++ (⟨#[59]⟩ : ByteArray).data.toList) := by
  obtain ⟨P, h1, h2⟩ := h
  obtain ⟨hi, hdi⟩ := List.getElem?_eq_some_iff.1 hd
  rw [List.drop_eq_getElem_cons hi, hdi] at h1
  obtain ⟨PN, PD, hN, hD, rfl⟩ := h1
  obtain ⟨f, z, A1, PA, hf, hA, hz, hW, rfl⟩ := ws_one (by decide) (by decide) hN
  refine ⟨f, z, A1, PA, by rw [hA]; simp, hz, hW, PD, hD, ?_⟩
  rw [← h2]
  simp [txtP, txtP_app, wbw, wbm, st0]
set_option maxRecDepth 100000 in
set_option maxHeartbeats 8000000 in
theorem print_any (a : Option Addr) (c n : Nat) (D : List Df) (w : World) (hn : D.length = n) (hL : Lens D) (r : Hid (DRow w a D)) (ht : Hid (Tab w.heap.size w)) :
    Calls Tryd.prog 8 #[.agg #[.slice a n c]] w fun e w' => ∃ X k, e = .returned (.tuple #[.string X, .int .i64 k]) ∧ Hid (PrT D X k) ∧ Hid (Below w.heap.size w w') := by
  have hn63 : n ≤ 9223372036854775807 := by rw [← hn]; exact hL.1
  obtain ⟨wA, hwA⟩ : ∃ wA, wA = w.alloc (.cells #[.slice a n c] 24) := ⟨_, rfl⟩
  have KA : Blk wA w.heap.size 24 [.slice a n c] := by rw [hwA]; exact Blk.newA w #[.slice a n c] 24
  have hBA : Below w.heap.size w wA := by rw [hwA]; exact (Below.refl _ _).alloc (Nat.le_refl _) _
  have HCk := hide_ (check_any a c D wA (hide_ hL) (hide_ (r.out.later hBA)))
  rw [hn] at HCk
  have HKA := hide_ KA
  have HBA := hide_ hBA
  have Hn := hide_ hn
  have HLn := hide_ hL
  clear KA hBA hn hL
  have hmf : ∀ (fn : Fn) (first cap : Array Value) (w : World), (Instr.makeFunc fn first cap).run Tryd.prog w = .ok (.func fn first cap) w := fun _ _ _ _ => rfl
  go_enter Tryd.func8, Tryd.ntmps8
  go_upto_region 1 with fail
  rw [← hwA]
  clear hwA
  have x0 := HKA.out.cell 0
  simp at x0
  go_wp2_with fail
  refine HCk.out.mono ?_; rintro e w1 ⟨rfl, hB1⟩
  have HB1 := hide_ (HBA.out.trans (hB1.mono HBA.out.size))
  have HK1 := hide_ (HKA.out.later hB1)
  clear hB1 HKA HBA HCk x0
  obtain ⟨E, hE⟩ : ∃ E, (ckP D).2.2 = E := ⟨_, rfl⟩
  have HE := hide_ hE
  rw [hE]
  clear hE
  by_cases hE0 : E = 0
  · subst hE0
    obtain ⟨hD256, hall⟩ := ckP_all HE.out
    obtain ⟨P, hP⟩ := wds_of st0 D hall
    have Hall := hide_ hall
    have HP := hide_ hP
    have HS0 : Hid (DpR D (txtP P) 0 []) := hide_ ⟨P, hP, rfl⟩
    obtain ⟨T, hT⟩ : ∃ T, txtP P = T := ⟨_, rfl⟩
    rw [hT] at HS0
    have HTT := hide_ hT
    clear hT hP hall hD256
    obtain ⟨w2, hw2⟩ : ∃ w2, w2 = (w1.alloc (.cells #[.slice none 0 0] 46)).alloc (.cells #[.bool false] 4) := ⟨_, rfl⟩
    have q1 : Blk w2 w1.heap.size 46 [.slice none 0 0] := by rw [hw2]; exact (Blk.newA w1 #[.slice none 0 0] 46).alloc _
    have q2 : Blk w2 (w1.heap.size + 1) 4 [.bool false] := by rw [hw2]; have h := Blk.newA (w1.alloc (.cells #[.slice none 0 0] 46)) #[.bool false] 4; simpa using h
    have hB2 : Below w1.heap.size w1 w2 := by rw [hw2]; exact below2 w1 _ _
    obtain ⟨gT, hgT⟩ : ∃ gT, w1.heap.size = gT := ⟨_, rfl⟩
    obtain ⟨gL, hgL⟩ : ∃ gL, w1.heap.size + 1 = gL := ⟨_, rfl⟩
    have HT2 : Hid (Txw w2 w.heap.size gT gL []) := hide_ ⟨by rw [← hgT]; exact HB1.out.size, by rw [← hgL]; exact Nat.le_succ_of_le HB1.out.size, _, [], false, by rw [← hgT]; exact q1, BR.nil _ _, by rw [← hgL]; exact q2, by decide, .inl ⟨rfl, rfl⟩⟩
    have HB2 := hide_ (HB1.out.trans (hB2.mono HB1.out.size))
    have HK2 := hide_ (HK1.out.later hB2)
    have HKp2 := hide_ (Kp.of_below (Nat.le_refl _) HB2.out)
    have HgT := hide_ hgT
    have HgL := hide_ hgL
    clear q1 q2 hB2 HB1 HK1 hgT hgL
    go_upto_region 7 with fail
    rw [← hw2]
    rw [HgL.out, HgT.out]
    clear hw2 HgT HgL hmf
    have x0 := HK2.out.cell 0
    simp at x0
    go_wp2_with fail
    clear x0 HK2 HB2
    go_loopw [25] (fun x25 wr => ∃ (i : Nat) (Fi : List UInt8), i ≤ n ∧ x25 = .int .i64 (i : Int) ∧ Hid (DpR D T i Fi) ∧ Hid (Txw wr w.heap.size gT gL Fi) ∧ Hid (Kp w.heap.size w wr)) (fun x25 _ => n - (intOf x25).toNat)
    case atStart => exact ⟨0, [], Nat.zero_le _, rfl, HS0, HT2, HKp2⟩
    case round =>
      clear HS0 HT2 HKp2
      obtain ⟨i, Fi, hi, rfl, HS, HT, HKp⟩ := hrel
      generalize wr = wq at *
      by_cases hlt : i < n
      · have hlt' : (i : Int) < n := by omega
        have hd : D[i]? = some (D[i]'(by rw [Hn.out]; exact hlt)) := List.getElem?_eq_getElem _
        have hmem := List.getElem_mem (l := D) (n := i) (by rw [Hn.out]; exact hlt)
        generalize D[i]'(by rw [Hn.out]; exact hlt) = d at *
        have hnm := (Hall.out d hmem).1
        have hnsz : d.name.size ≤ 100 := by obtain ⟨_, h2, _⟩ := of_decide_eq_true hnm; omega
        obtain ⟨f, z, A1, PA, hty, hz, hW, hS2⟩ := HS.out.step hd
        obtain ⟨b, off, rfl, hb, hcell⟩ := r.out.open (by rw [Hn.out]; omega)
        obtain ⟨va, vc, hcs, hvc, -, hN⟩ := hcell i d hd
        have g := fun j hj => (HKp.out.1.cell (p := ⟨b, off + i * 3 + j, none⟩) hb).trans (hcs j hj)
        have p0 : wq.cell? ⟨b, off + i * 3, none⟩ = some (.string d.name) := g 0 (by decide)
        have p1 : wq.cell? ⟨b, off + i * 3 + 1, none⟩ = some (.int .i64 d.a) := g 1 (by decide)
        have p2 : wq.cell? ⟨b, off + i * 3 + 2, none⟩ = some (.slice va d.ty.length vc) := g 2 (by decide)
        have hTy := fun (w3 : World) F3 HB3 HT3 => ty_any f w w3 gT gL 0 0 z A1 [] PA va d.ty.length vc F3 hz hW (by rw [hty]) hvc (hide_ (by rw [← hty]; exact hN)) HB3 ht HT3
        have HTy := hide_ hTy
        have HS2 := hide_ hS2
        clear hTy hS2 hz hW hty hcs hN g hcell hd hmem hnm HS
        obtain ⟨wz, hwz⟩ : ∃ wz, wz = wq.alloc (.cells #[.string d.name, .int .i64 d.a, .slice va d.ty.length vc] 33) := ⟨_, rfl⟩
        have kz : Blk wz wq.heap.size 33 [.string d.name, .int .i64 d.a, .slice va d.ty.length vc] := by rw [hwz]; exact Blk.newA wq #[.string d.name, .int .i64 d.a, .slice va d.ty.length vc] 33
        have hBz : Below wq.heap.size wq wz := by rw [hwz]; exact (Below.refl _ _).alloc (Nat.le_refl _) _
        have HTz := hide_ (HT.out.later hBz)
        have HKz := hide_ (HKp.out.trans (Kp.of_below HT.out.size hBz))
        have HBz := hide_ kz
        clear kz hBz HT HKp
        go_upto_region 10 with fail
        rw [← hwz]
        clear hwz p0 p1 p2
        have u0 := HBz.out.cell 0
        simp at u0
        go_wp2_with fail
        refine (add3 HTz ⟨#[116, 121, 112, 101, 32]⟩ d.name ⟨#[61]⟩ (by decide) (by omega) (by decide)).mono ?_; rintro e w3 ⟨rfl, HT3, HK3'⟩
        have HK3 := hide_ (HKz.out.trans HK3'.out)
        have HB3 := hide_ (HK3'.out.2 _ _ _ (by decide) (by decide) (by decide) HBz.out)
        clear u0 HTz HKz HK3' HBz
        have u2 := HB3.out.cell 2
        simp at u2
        go_wp2_with fail
        refine (HTy.out w3 _ (hide_ HK3.out.1) HT3).mono ?_; rintro e w4 ⟨a4, c4, rfl, -, -, -, HT4, HK4'⟩
        have HK4 := hide_ (HK3.out.trans HK4'.out)
        clear u2 HK3 HB3 HK4' HTy HT3
        go_wp2_with fail
        refine (add1 HT4 ⟨#[59]⟩ (by decide)).mono ?_; rintro e w5 ⟨rfl, HT5, HK5'⟩
        have HK5 := hide_ (HK4.out.trans HK5'.out)
        clear HT4 HK4 HK5'
        go_wp2
        go_roundw
        case rel => exact ⟨i + 1, _, by omega, by go_num, HS2, HT5, HK5⟩
        case measure => simp [intOf]; omega
      · obtain rfl : i = n := by omega
        have hFT : Fi = T := DpR.done (by rw [Hn.out]; exact HS.out)
        subst hFT
        have HBf := hide_ HKp.out.1
        obtain ⟨h1, h2, vb, bb, lg, k1, k2, k3, hb6, hor⟩ := HT.out
        have c1 := k1.cell 0
        have c3 := k3.cell 0
        simp at c1 c3
        obtain ⟨a2, cap2, hv, hcv⟩ := k2.conv
        subst hv
        clear HS HT HKp k1 k2 k3
        rcases hor with ⟨rfl, hbF⟩ | ⟨rfl, hF⟩
        · have Hpr : Hid (PrT D ⟨bb.toArray⟩ 0) := hide_ (.inr ⟨HE.out, P, HP.out, .inr ⟨by rw [HTT.out, ← hbF]; exact hb6, by rw [HTT.out, ← hbF], rfl⟩⟩)
          clear hbF
          go_wp2
          go_ret2
          exact ⟨_, _, rfl, Hpr, HBf⟩
        · have Hpr : Hid (PrT D ⟨#[]⟩ 4) := hide_ (.inr ⟨HE.out, P, HP.out, .inl ⟨by rw [HTT.out]; exact hF, rfl, rfl⟩⟩)
          clear hF
          go_wp2
          go_ret2
          exact ⟨_, _, rfl, Hpr, HBf⟩
  · have Hpr : Hid (PrT D ⟨#[]⟩ E) := hide_ (.inl ⟨by rw [HE.out]; exact hE0, rfl, HE.out.symm⟩)
    go_wp2
    go_ret2
    exact ⟨_, _, rfl, Hpr, HB1⟩
end Go.Proofs.YtbfmoiaedopeiaaDoor

/- A source's printed text: plain. -/
namespace Go.Proofs.YtbfmoiaedopeiaaDoor
open Go.RowKit
set_option linter.unusedVariables false

theorem ws_det {st : Sty} : ∀ (fu d : Nat) (k : Int) (n : Nat) (A B A' B' : List Nd) (P P' : List (Q × List UInt8)), WS st fu d k n A P → WS st fu d k n A' P' → (A ++ B).map zNd = (A' ++ B').map zNd → A.map zNd = A'.map zNd ∧ B.map zNd = B'.map zNd ∧ P = P'
  | 0, d, k, n, A, B, A', B', P, P', h, h', e => by
    obtain ⟨_, rfl, rfl⟩ := h
    obtain ⟨_, rfl, rfl⟩ := h'
    exact ⟨rfl, by simpa using e, rfl⟩
  | fu + 1, d, k, 0, A, B, A', B', P, P', h, h', e => by
    obtain ⟨rfl, rfl⟩ := h
    obtain ⟨rfl, rfl⟩ := h'
    exact ⟨rfl, by simpa using e, rfl⟩
  | fu + 1, d, k, n + 1, A, B, A', B', P, P', h, h', e => by
    obtain ⟨x, A1, B1, PA, PB, rfl, hx, hA, hB, rfl⟩ := h
    obtain ⟨x', A1', B1', PA', PB', rfl, hx', hA', hB', rfl⟩ := h'
    simp only [List.cons_append, List.map_cons, List.append_assoc] at e
    injection e with e1 e2
    have k1 : x.k = x'.k := by have t := congrArg Nd.k e1; exact t
    have k2 : x.kids = x'.kids := by have t := congrArg Nd.kids e1; exact t
    rw [← k1, ← k2] at hA'
    obtain ⟨q1, q2, q3⟩ := ws_det fu _ _ _ A1 (B1 ++ B) A1' (B1' ++ B') PA PA' hA hA' e2
    obtain ⟨q4, q5, q6⟩ := ws_det fu _ _ _ B1 B B1' B' PB PB' hB hB' q2
    refine ⟨?_, q5, ?_⟩
    · simp only [List.map_cons, List.map_append]
      rw [e1, q1, q4]
    · have h1 : hdS st k x = hdS st k x' := by
        have : hdS st k (zNd x) = hdS st k (zNd x') := by rw [e1]
        exact this
      have h2 : opnS st x = opnS st x' := by
        have : opnS st (zNd x) = opnS st (zNd x') := by rw [e1]
        exact this
      have h3 : clsS st x = clsS st x' := by
        have : clsS st (zNd x) = clsS st (zNd x') := by rw [e1]
        exact this
      rw [h1, h2, h3, q3, q6]
theorem wds_det {st : Sty} : ∀ (D D' : List Df) (P P' : List (Q × List UInt8)), WDS st D P → WDS st D' P' → D.map zDf = D'.map zDf → P = P'
  | [], [], P, P', h, h', _ => by
    have h1 : P = [] := h
    have h2 : P' = [] := h'
    rw [h1, h2]
  | [], d :: D, P, P', h, h', e => by cases e
  | d :: D, [], P, P', h, h', e => by cases e
  | d :: D, d' :: D', P, P', h, h', e => by
    simp only [List.map_cons] at e
    injection e with e1 e2
    obtain ⟨PN, PD, hN, hD, rfl⟩ := h
    obtain ⟨PN', PD', hN', hD', rfl⟩ := h'
    have n1 : d.name = d'.name := by have t := congrArg Df.name e1; exact t
    have n2 : d.ty.map zNd = d'.ty.map zNd := by have t := congrArg Df.ty e1; exact t
    have n3 : d.ty.length = d'.ty.length := by have := congrArg List.length n2; simpa using this
    rw [← n3] at hN'
    obtain ⟨_, _, q⟩ := ws_det _ _ _ _ d.ty [] d'.ty [] PN PN' hN hN' (by simpa using n2)
    rw [n1, q, wds_det D D' PD PD' hD hD' e2]
theorem PrT.err {D : List Df} {X : ByteArray} {c : Int} (h : PrT D X c) (hc : c ≠ 0) : X = ⟨#[]⟩ := by
  rcases h with ⟨_, h, _⟩ | ⟨_, P, _, ⟨_, h, _⟩ | ⟨_, _, h⟩⟩
  · exact h
  · exact h
  · exact absurd h hc
theorem PrT.ok {D : List Df} {X : ByteArray} (h : PrT D X 0) : (ckP D).2.2 = 0 ∧ ∃ P, WDS st0 D P ∧ (txtP P).length ≤ 65536 ∧ X = ⟨(txtP P).toArray⟩ := by
  rcases h with ⟨h1, _, h⟩ | ⟨h1, P, h2, ⟨_, _, h⟩ | ⟨h3, h4, _⟩⟩
  · exact absurd h.symm h1
  · cases h
  · exact ⟨h1, P, h2, h3, h4⟩
/-- Sources that are the same have the same text. -/
theorem PrT.same {D D' : List Df} {X X' : ByteArray} {c' : Int} (h : PrT D X 0) (hk : (ckP D').2.2 = 0) (hz : D'.map zDf = D.map zDf) (h' : PrT D' X' c') : X' = X ∧ c' = 0 := by
  obtain ⟨_, P, h2, h3, h4⟩ := h.ok
  rcases h' with ⟨k1, _⟩ | ⟨_, P', k2, k3⟩
  · exact absurd hk k1
  · have e := wds_det _ _ _ _ k2 h2 hz
    subst e
    rcases k3 with ⟨k3, _⟩ | ⟨_, k4, k5⟩
    · omega
    · exact ⟨by rw [k4, h4], k5⟩
theorem zDf_dfP (ts : List Tk) (L : Nat) (d : Df) : zDf (dfP ts L d) = zDf d := by
  unfold zDf dfP
  simp only [List.map_map]
  congr 1
/-- What is printed is parsed back, to the same source. -/
theorem PrT.back {D : List Df} {X : ByteArray} (h : PrT D X 0) : ∃ D1, prsT X = (D1, 0, 0) ∧ D1.map zDf = D.map zDf ∧ (ckP D1).2.2 = 0 := by
  obtain ⟨h1, P, h2, h3, h4⟩ := h.ok
  obtain ⟨P0, D0, k1, k2, k3, k4⟩ := text_back st0_ok h1
  have e := wds_det _ _ _ _ k1 h2 rfl
  subst e
  have hX : X.data.toList = txtP P0 := by rw [h4]
  have hs : X.size ≤ 65536 := by rw [Lib.size_eq, hX]; exact h3
  obtain ⟨_, k5⟩ := k4 X hX hs
  refine ⟨_, k5, ?_, ?_⟩
  · rw [List.map_map, ← k3]
    exact List.map_congr_left fun d _ => zDf_dfP _ _ d
  · have := prs_check (s := X) (by rw [k5])
    rw [k5] at this
    rw [this]
/-! ### The fixed source -/
def nA : List Nd := [⟨5, 3, ⟨#[]⟩, ⟨#[]⟩, 0, 1, 0⟩, ⟨1, 2, ⟨#[]⟩, ⟨#[]⟩, 0, 0, 0⟩]
def dA : List Df := [⟨⟨#[97]⟩, 0, nA⟩]
def tA : ByteArray := ⟨#[116, 121, 112, 101, 32, 97, 61, 108, 105, 115, 116, 60, 117, 49, 54, 44, 51, 62, 59]⟩
theorem ckA : ckP dA = (0, 0, 0) := by rfl
theorem prA {X : ByteArray} {c : Int} (h : PrT dA X c) : X = tA ∧ c = 0 := by
  rcases h with ⟨k1, _⟩ | ⟨_, P, k2, k3⟩
  · rw [ckA] at k1; exact absurd rfl k1
  · have hw : ∃ P0, WDS st0 dA P0 ∧ txtP P0 = tA.data.toList :=
      ⟨_, ⟨_, [], ⟨⟨5, 3, ⟨#[]⟩, ⟨#[]⟩, 0, 1, 0⟩, [⟨1, 2, ⟨#[]⟩, ⟨#[]⟩, 0, 0, 0⟩], [], _, [], rfl, by rfl, ⟨⟨1, 2, ⟨#[]⟩, ⟨#[]⟩, 0, 0, 0⟩, [], [], [], [], rfl, by rfl, ⟨rfl, rfl, rfl⟩, ⟨rfl, rfl, rfl⟩, rfl⟩, ⟨rfl, rfl⟩, rfl⟩, rfl, rfl⟩, by rfl⟩
    obtain ⟨P0, k4, k5⟩ := hw
    have e := wds_det _ _ _ _ k2 k4 rfl
    subst e
    rw [k5] at k3
    rcases k3 with ⟨k3, _⟩ | ⟨_, k4, k5⟩
    · exact absurd k3 (by decide)
    · exact ⟨k4, k5⟩
end Go.Proofs.YtbfmoiaedopeiaaDoor

/- A text that is parsed is no shorter than the printed one: plain. -/
namespace Go.Proofs.YtbfmoiaedopeiaaDoor
open Go.RowKit
set_option linter.unusedVariables false

theorem beg_word {t : ByteArray} {y : Nd} (h : ¬ (beg t).1 = 0) (hk : y.k = (beg t).1) (hn : y.k = 1 → y.n = (beg t).2) (hnm : y.k = 9 → y.name = t) : wordT y = t := by
  by_cases e0 : t = ⟨#[117, 56]⟩
  · subst e0
    have hb : beg ⟨#[117, 56]⟩ = (1, 1) := by rfl
    rw [hb] at hk hn
    unfold wordT wordN
    rw [if_pos hk, hn hk]
    rfl
  by_cases e1 : t = ⟨#[117, 49, 54]⟩
  · subst e1
    have hb : beg ⟨#[117, 49, 54]⟩ = (1, 2) := by rfl
    rw [hb] at hk hn
    unfold wordT wordN
    rw [if_pos hk, hn hk]
    rfl
  by_cases e2 : t = ⟨#[117, 51, 50]⟩
  · subst e2
    have hb : beg ⟨#[117, 51, 50]⟩ = (1, 4) := by rfl
    rw [hb] at hk hn
    unfold wordT wordN
    rw [if_pos hk, hn hk]
    rfl
  by_cases e3 : t = ⟨#[117, 54, 52]⟩
  · subst e3
    have hb : beg ⟨#[117, 54, 52]⟩ = (1, 8) := by rfl
    rw [hb] at hk hn
    unfold wordT wordN
    rw [if_pos hk, hn hk]
    rfl
  by_cases e4 : t = ⟨#[98, 111, 111, 108]⟩
  · subst e4
    have hb : beg ⟨#[98, 111, 111, 108]⟩ = (2, 0) := by rfl
    rw [hb] at hk hn
    unfold wordT
    rw [hk]
    rfl
  by_cases e5 : t = ⟨#[118, 97, 114, 105, 110, 116]⟩
  · subst e5
    have hb : beg ⟨#[118, 97, 114, 105, 110, 116]⟩ = (3, 0) := by rfl
    rw [hb] at hk hn
    unfold wordT
    rw [hk]
    rfl
  by_cases e6 : t = ⟨#[118, 101, 99, 116, 111, 114]⟩
  · subst e6
    have hb : beg ⟨#[118, 101, 99, 116, 111, 114]⟩ = (4, 0) := by rfl
    rw [hb] at hk hn
    unfold wordT
    rw [hk]
    rfl
  by_cases e7 : t = ⟨#[108, 105, 115, 116]⟩
  · subst e7
    have hb : beg ⟨#[108, 105, 115, 116]⟩ = (5, 0) := by rfl
    rw [hb] at hk hn
    unfold wordT
    rw [hk]
    rfl
  by_cases e8 : t = ⟨#[111, 112, 116, 105, 111, 110]⟩
  · subst e8
    have hb : beg ⟨#[111, 112, 116, 105, 111, 110]⟩ = (6, 0) := by rfl
    rw [hb] at hk hn
    unfold wordT
    rw [hk]
    rfl
  by_cases e9 : t = ⟨#[117, 110, 105, 111, 110]⟩
  · subst e9
    have hb : beg ⟨#[117, 110, 105, 111, 110]⟩ = (7, 0) := by rfl
    rw [hb] at hk hn
    unfold wordT
    rw [hk]
    rfl
  by_cases e10 : t = ⟨#[115, 116, 114, 117, 99, 116]⟩
  · subst e10
    have hb : beg ⟨#[115, 116, 114, 117, 99, 116]⟩ = (8, 0) := by rfl
    rw [hb] at hk hn
    unfold wordT
    rw [hk]
    rfl
  have hb : beg t = if isName t then (9, 0) else (0, 0) := by
    unfold beg
    rw [if_neg e0, if_neg e1, if_neg e2, if_neg e3, if_neg e4, if_neg e5, if_neg e6, if_neg e7, if_neg e8, if_neg e9, if_neg e10]
  rw [hb] at h hk
  cases hN : isName t with
  | false => rw [hN] at h; exact absurd rfl h
  | true =>
    rw [hN] at hk
    have hk9 : y.k = 9 := hk
    rw [← hnm hk9]
    unfold wordT
    rw [hk9]
    rfl
theorem beg_empty : (beg ⟨#[]⟩).1 = 0 := by rfl
/-! ### How long a form is -/
def hl (k : Int) (x : Nd) : Nat := (txtP (hdS st0 k x)).length
def ol (x : Nd) : Nat := (txtP (opnS st0 x)).length
def cl (x : Nd) : Nat := (txtP (clsS st0 x)).length
def sl (k : Int) (n : Nat) : Nat := (txtP (sepS k n)).length
theorem ol_leaf {x : Nd} (h : ¬ (x.k = 4 ∨ x.k = 5 ∨ x.k = 6)) (h2 : ¬ (x.k = 7 ∨ x.k = 8)) : ol x = (wordT x).size ∧ cl x = 0 := by
  unfold ol cl opnS clsS
  rw [if_neg h, if_neg h2, if_neg (by omega), if_neg (by omega), if_neg h2]
  simp [txtP, wbw]
theorem ol_list {x : Nd} (h : x.k = 4 ∨ x.k = 5 ∨ x.k = 6) : ol x = (wordT x).size + 1 := by
  unfold ol opnS
  rw [if_pos h]
  by_cases h5 : x.k = 5
  · rw [if_pos h5]; simp [txtP, wbw, wbm, st0]
  · rw [if_neg h5]; simp [txtP, wbw, wbm]
theorem cl_list {x : Nd} (h : x.k = 4 ∨ x.k = 5) : cl x = 1 + ((dec x.n.toNat).length + 1) := by
  unfold cl clsS
  rw [if_pos h]
  simp [txtP, wbm, wbn, st0]
  omega
theorem cl_opt {x : Nd} (h : x.k = 6) : cl x = 1 := by
  unfold cl clsS
  rw [if_neg (by omega), if_pos h]
  simp [txtP, wbm]
theorem ol_parts {x : Nd} (h : x.k = 7 ∨ x.k = 8) : ol x = (wordT x).size + 1 ∧ cl x = 1 := by
  constructor
  · unfold ol opnS
    rw [if_neg (by omega), if_pos h]
    by_cases h5 : x.k = 8
    · rw [if_pos h5]; simp [txtP, wbw, wbm, st0]
    · rw [if_neg h5]; simp [txtP, wbw, wbm]
  · unfold cl clsS
    rw [if_neg (by omega), if_neg (by omega), if_pos h]
    simp [txtP, wbm]
theorem hl_0 (x : Nd) {k : Int} (h7 : k ≠ 7) (h8 : k ≠ 8) : hl k x = 0 := by unfold hl hdS; rw [if_neg h7, if_neg h8]; rfl
theorem hl_7 (x : Nd) : hl 7 x = (dec x.tag.toNat).length + 1 := by unfold hl hdS; rw [if_pos rfl]; simp [txtP, wbm, wbn, st0]
theorem hl_8 (x : Nd) : hl 8 x = x.label.size + 1 := by unfold hl hdS; rw [if_neg (by decide), if_pos rfl]; simp [txtP, wbm, wbw, st0]
theorem sl_0 (k : Int) : sl k 0 = 0 := by unfold sl sepS; rw [if_neg (by omega)]; rfl
theorem sl_s {k : Int} (h : k = 7 ∨ k = 8) (n : Nat) : sl k (n + 1) = 1 := by unfold sl sepS; rw [if_pos ⟨h, by omega⟩]; simp [txtP, wbm]
def WL : Nat → Int → Nat → List Nd → Nat → Prop
  | 0, _, n, N, l => n = 0 ∧ N = [] ∧ l = 0
  | _ + 1, _, 0, N, l => N = [] ∧ l = 0
  | fu + 1, k, n + 1, N, l => ∃ x A B la lb, N = x :: (A ++ B) ∧ WL fu x.k x.kids.toNat A la ∧ WL fu k n B lb ∧ l = hl k x + (ol x + (la + (cl x + (sl k n + lb))))
theorem WL.none (fu : Nat) (k : Int) : WL fu k 0 [] 0 := by
  cases fu with
  | zero => exact ⟨rfl, rfl, rfl⟩
  | succ f => exact ⟨rfl, rfl⟩
theorem WL.mono : ∀ {fu : Nat} {k : Int} {n : Nat} {N : List Nd} {l : Nat}, WL fu k n N l → ∀ g, WL (fu + g) k n N l
  | 0, k, n, N, l, h, g => by obtain ⟨rfl, rfl, rfl⟩ := h; exact WL.none _ _
  | fu + 1, k, 0, N, l, h, g => by obtain ⟨rfl, rfl⟩ := h; exact WL.none _ _
  | fu + 1, k, n + 1, N, l, h, g => by
    obtain ⟨x, A, B, la, lb, h1, h2, h3, h4⟩ := h
    have e : fu + 1 + g = (fu + g) + 1 := by omega
    rw [e]
    exact ⟨x, A, B, la, lb, h1, WL.mono h2 g, WL.mono h3 g, h4⟩
theorem WL.cons {F1 F2 : Nat} {k : Int} {n la lb : Nat} {x : Nd} {A B : List Nd} (h1 : WL F1 x.k x.kids.toNat A la) (h2 : WL F2 k n B lb) : WL (F1 + F2 + 1) k (n + 1) (x :: (A ++ B)) (hl k x + (ol x + (la + (cl x + (sl k n + lb))))) :=
  ⟨x, A, B, la, lb, rfl, h1.mono F2, by have := h2.mono F1; rwa [Nat.add_comm] at this, rfl⟩
theorem ws_wl : ∀ (fu d : Nat) (k : Int) (n : Nat) (N : List Nd) (P : List (Q × List UInt8)), WS st0 fu d k n N P → WL fu k n N (txtP P).length
  | 0, d, k, n, N, P, h => by obtain ⟨rfl, rfl, rfl⟩ := h; exact ⟨rfl, rfl, rfl⟩
  | fu + 1, d, k, 0, N, P, h => by obtain ⟨rfl, rfl⟩ := h; exact ⟨rfl, rfl⟩
  | fu + 1, d, k, n + 1, N, P, h => by
    obtain ⟨x, A, B, PA, PB, h1, h2, hA, hB, rfl⟩ := h
    refine ⟨x, A, B, _, _, h1, ws_wl fu _ _ _ _ _ hA, ws_wl fu _ _ _ _ _ hB, ?_⟩
    simp only [txtP_app, List.length_append, hl, ol, cl, sl]
theorem wl_det : ∀ (fu : Nat) (k : Int) (n : Nat) (A B A' B' : List Nd) (l l' : Nat), WL fu k n A l → WL fu k n A' l' → (A ++ B).map zNd = (A' ++ B').map zNd → B.map zNd = B'.map zNd ∧ l = l'
  | 0, k, n, A, B, A', B', l, l', h, h', e => by
    obtain ⟨_, rfl, rfl⟩ := h
    obtain ⟨_, rfl, rfl⟩ := h'
    exact ⟨by simpa using e, rfl⟩
  | fu + 1, k, 0, A, B, A', B', l, l', h, h', e => by
    obtain ⟨rfl, rfl⟩ := h
    obtain ⟨rfl, rfl⟩ := h'
    exact ⟨by simpa using e, rfl⟩
  | fu + 1, k, n + 1, A, B, A', B', l, l', h, h', e => by
    obtain ⟨x, A1, B1, la, lb, rfl, hA, hB, rfl⟩ := h
    obtain ⟨x', A1', B1', la', lb', rfl, hA', hB', rfl⟩ := h'
    simp only [List.cons_append, List.map_cons, List.append_assoc] at e
    injection e with e1 e2
    have k1 : x.k = x'.k := by have t := congrArg Nd.k e1; exact t
    have k2 : x.kids = x'.kids := by have t := congrArg Nd.kids e1; exact t
    rw [← k1, ← k2] at hA'
    obtain ⟨q2, q3⟩ := wl_det fu _ _ A1 (B1 ++ B) A1' (B1' ++ B') la la' hA hA' e2
    obtain ⟨q5, q6⟩ := wl_det fu _ _ B1 B B1' B' lb lb' hB hB' q2
    refine ⟨q5, ?_⟩
    have h1 : hl k x = hl k x' := by
      have : hl k (zNd x) = hl k (zNd x') := by rw [e1]
      exact this
    have h2 : ol x = ol x' := by
      have : ol (zNd x) = ol (zNd x') := by rw [e1]
      exact this
    have h3 : cl x = cl x' := by
      have : cl (zNd x) = cl (zNd x') := by rw [e1]
      exact this
    rw [h1, h2, h3, q3, q6]
theorem wl_one {F F' : Nat} {k : Int} {A A' : List Nd} {l l' : Nat} (h : WL F k 1 A l) (h' : WL F' k 1 A' l') (e : A.map zNd = A'.map zNd) : l = l' :=
  (wl_det (F + F') k 1 A [] A' [] l l' (h.mono F') (by have := h'.mono F; rwa [Nat.add_comm] at this) (by simpa using e)).2
/-! ### Tokens, one behind the other -/
structure Adv (qs : List Q) (p : Nat → Nat) : Prop where
  good : ∀ i, i < qs.length → ((qAt qs i).k ≠ 2 ∧ p i + (qAt qs i).t.size ≤ p (i + 1)) ∨ ((qAt qs i).k = 2 ∧ (qAt qs i).t = ⟨#[]⟩ ∧ p i + (dec (qAt qs i).n.toNat).length ≤ p (i + 1))
  word : ∀ i, i + 1 < qs.length → (qAt qs i).t = ⟨#[116, 121, 112, 101]⟩ → isName (qAt qs (i + 1)).t = true → p i + 5 ≤ p (i + 1)
  last : ∀ i, qs.length ≤ i → p i = p qs.length
section
variable {qs : List Q} {p : Nat → Nat}
theorem q_none {i : Nat} (h : qs.length ≤ i) : qAt qs i = q0 := by unfold qAt; simp [List.getD, h]
theorem Adv.some (H : Adv qs p) {i : Nat} (hi : i < qs.length) (ht : (qAt qs i).t ≠ ⟨#[]⟩) : p i + (qAt qs i).t.size ≤ p (i + 1) := by
  rcases H.good i hi with h | h
  · exact h.2
  · exact absurd h.2.1 ht
theorem Adv.t (H : Adv qs p) {s : ByteArray} {i j : Nat} (hs : s ≠ ⟨#[]⟩) (h : txt qs s i = .ok j) : j = i + 1 ∧ i < qs.length ∧ p i + s.size ≤ p j := by
  obtain ⟨h1, h2⟩ := tak_ok (by simpa only [txt] using h)
  have h3 : (qAt qs i).t = s := of_decide_eq_true h2
  have hi : i < qs.length := by
    rcases Nat.lt_or_ge i qs.length with h4 | h4
    · exact h4
    · rw [q_none h4] at h3; exact absurd h3.symm hs
  have := H.some hi (by rw [h3]; exact hs)
  rw [h3] at this
  subst h1
  exact ⟨rfl, hi, this⟩
theorem Adv.nm (H : Adv qs p) {i j : Nat} (h : tak qs isNm i = .ok j) : j = i + 1 ∧ i < qs.length ∧ isName (qAt qs i).t = true ∧ p i + (qAt qs i).t.size ≤ p j := by
  obtain ⟨h1, h2⟩ := tak_ok h
  have h2' : isName (qAt qs i).t = true := h2
  have hne : (qAt qs i).t ≠ ⟨#[]⟩ := fun e => by rw [e] at h2'; revert h2'; decide
  have hi : i < qs.length := by
    rcases Nat.lt_or_ge i qs.length with h4 | h4
    · exact h4
    · rw [q_none h4] at hne; exact absurd rfl hne
  subst h1
  exact ⟨rfl, hi, h2', H.some hi hne⟩
theorem Adv.num (H : Adv qs p) {i j : Nat} (h : tak qs isNum i = .ok j) : j = i + 1 ∧ p i + (dec (qAt qs i).n.toNat).length ≤ p j := by
  obtain ⟨h1, h2⟩ := tak_ok h
  have h3 : (qAt qs i).k = 2 := of_decide_eq_true h2
  have hi : i < qs.length := by
    rcases Nat.lt_or_ge i qs.length with h4 | h4
    · exact h4
    · rw [q_none h4] at h3; exact absurd h3 (by decide)
  subst h1
  rcases H.good i hi with h | h
  · exact absurd h3 h.1
  · exact ⟨rfl, h.2.2⟩
def NodeL (qs : List Q) (p : Nat → Nat) (sub : Nd → Nat → PR (List Nd × Nat)) : Prop := ∀ x i N j, x.kids = 0 → sub x i = .ok (N, j) → ∃ y A la F, N = y :: A ∧ y.label = x.label ∧ y.tag = x.tag ∧ WL F y.k y.kids.toNat A la ∧ p i + (ol y + (la + cl y)) ≤ p j
def PartL (p : Nat → Nat) (k : Int) (one : Nat → Nat → PR (List Nd × Nat)) : Prop := ∀ c i M j, one c i = .ok (M, j) → ∃ z A la F, M = z :: A ∧ WL F z.k z.kids.toNat A la ∧ p i + (hl k z + (ol z + (la + cl z))) ≤ p j
theorem part_l {sub : Nd → Nat → PR (List Nd × Nat)} {x : Nd} {b : Bool} {i : Nat} {r : List Nd × Nat} (h : partP qs sub x b i = .ok r) : ∃ j, txt qs ⟨#[58]⟩ i = .ok j ∧ sub x j = .ok r := by
  unfold partP at h
  split at h
  · exact bnd_is h
  · cases h
theorem arm_l (H : Adv qs p) {sub : Nd → Nat → PR (List Nd × Nat)} (hs : NodeL qs p sub) : PartL p 7 (armP qs sub) := by
  intro c i M j h
  unfold armP at h
  obtain ⟨i1, e1, h⟩ := bnd_is h
  obtain ⟨rfl, a1⟩ := H.num e1
  obtain ⟨i2, e2, h⟩ := part_l h
  obtain ⟨rfl, _, a2⟩ := H.t (by decide) e2
  obtain ⟨y, A, la, F, h1, h2, h3, h4, h5⟩ := hs _ _ _ _ rfl h
  refine ⟨y, A, la, F, h1, h4, ?_⟩
  rw [hl_7, h3]
  have : (⟨#[58]⟩ : ByteArray).size = 1 := rfl
  simp only at h5 a1 a2 ⊢
  omega
theorem field_l (H : Adv qs p) {sub : Nd → Nat → PR (List Nd × Nat)} (hs : NodeL qs p sub) : PartL p 8 (fieldP qs sub) := by
  intro c i M j h
  unfold fieldP at h
  obtain ⟨i1, e1, h⟩ := bnd_is h
  obtain ⟨rfl, _, _, a1⟩ := H.nm e1
  obtain ⟨i2, e2, h⟩ := part_l h
  obtain ⟨rfl, _, a2⟩ := H.t (by decide) e2
  obtain ⟨y, A, la, F, h1, h2, h3, h4, h5⟩ := hs _ _ _ _ rfl h
  refine ⟨y, A, la, F, h1, h4, ?_⟩
  rw [hl_8, h2]
  have : (⟨#[58]⟩ : ByteArray).size = 1 := rfl
  simp only at h5 a1 a2 ⊢
  omega
theorem more_l (H : Adv qs p) {k : Int} (hk : k = 7 ∨ k = 8) {one : Nat → Nat → PR (List Nd × Nat)} (ho : PartL p k one) : ∀ (f c : Nat) (N : List Nd) (i : Nat) (N' : List Nd) (c' j : Nat), moreP qs one f c N i = .ok (N', c', j) →
    ∃ M m lm F, N' = N ++ M ∧ c' = c + m ∧ WL F k m M lm ∧ p i + (sl k m + lm + 1) ≤ p j
  | 0, c, N, i, N', c', j, h => by cases h
  | f + 1, c, N, i, N', c', j, h => by
    unfold moreP at h
    split at h
    · rename_i hc
      obtain ⟨⟨r1, r2⟩, e1, h⟩ := bnd_is h
      have e0 : txt qs ⟨#[44]⟩ i = .ok (i + 1) := by unfold txt tak; rw [if_pos hc]
      obtain ⟨_, _, a0⟩ := H.t (by decide) e0
      obtain ⟨z, A, la, F1, rfl, h2, h3⟩ := ho _ _ _ _ e1
      obtain ⟨M', m', lm, F2, h4, h5, h6, h7⟩ := more_l H hk ho f _ _ _ _ _ _ h
      refine ⟨z :: (A ++ M'), m' + 1, _, _, by rw [h4]; simp, by omega, WL.cons h2 h6, ?_⟩
      rw [sl_s hk]
      have : (⟨#[44]⟩ : ByteArray).size = 1 := rfl
      simp only at h7 a0 ⊢
      omega
    · obtain ⟨j1, e1, h⟩ := bnd_is h
      injection h with h
      injection h with h1 h2
      injection h2 with h2 h3
      subst h1 h2 h3
      obtain ⟨_, _, a0⟩ := H.t (by decide) e1
      refine ⟨[], 0, 0, 0, by simp, by simp, WL.none _ _, ?_⟩
      rw [sl_0]
      have : (⟨#[125]⟩ : ByteArray).size = 1 := rfl
      omega
theorem parts_l (H : Adv qs p) {k : Int} (hk : k = 7 ∨ k = 8) {one : Nat → Nat → PR (List Nd × Nat)} (ho : PartL p k one) {i : Nat} {N : List Nd} {c j : Nat} (h : partsP qs one i = .ok (N, c, j)) : ∃ l F, WL F k c N l ∧ p i + (1 + (l + 1)) ≤ p j := by
  unfold partsP at h
  obtain ⟨i1, e1, h⟩ := bnd_is h
  obtain ⟨rfl, _, a1⟩ := H.t (by decide) e1
  obtain ⟨⟨r1, r2⟩, e2, h⟩ := bnd_is h
  obtain ⟨z, A, la, F1, rfl, h2, h3⟩ := ho _ _ _ _ e2
  obtain ⟨M, m, lm, F2, h4, h5, h6, h7⟩ := more_l H hk ho _ _ _ _ _ _ _ h
  have e : c = m + 1 := by omega
  subst e
  refine ⟨_, _, by rw [h4]; exact WL.cons h2 h6, ?_⟩
  have : (⟨#[123]⟩ : ByteArray).size = 1 := rfl
  simp only at h7 a1 ⊢
  omega
theorem node_l (H : Adv qs p) : ∀ f, NodeL qs p (nodeP qs f) := by
  intro f
  induction f with
  | zero =>
    intro x i N j hx0 h
    unfold nodeP at h
    split at h <;> cases h
  | succ f ih =>
    intro x i N j hx0 h
    unfold nodeP at h
    split at h
    · cases h
    rename_i hb
    have hne : (qAt qs i).t ≠ ⟨#[]⟩ := fun e => hb (by rw [e]; exact beg_empty)
    have hi : i < qs.length := by
      rcases Nat.lt_or_ge i qs.length with h4 | h4
      · exact h4
      · rw [q_none h4] at hne; exact absurd rfl hne
    have ha := H.some hi hne
    generalize htt : (qAt qs i).t = t at *
    unfold bodyP at h
    simp only at h
    split at h
    · rename_i h9
      injection h with h
      injection h with h1 h2
      subst h1 h2
      refine ⟨_, [], 0, 0, rfl, rfl, rfl, by simp only [hx0]; exact WL.none _ _, ?_⟩
      have hw := beg_word (t := t) (y := { x with k := (beg t).1, n := (beg t).2, name := (qAt qs i).t }) hb rfl (fun _ => rfl) (fun _ => htt)
      obtain ⟨o1, o2⟩ := ol_leaf (x := { x with k := (beg t).1, n := (beg t).2, name := (qAt qs i).t }) (by simp only; omega) (by simp only; omega)
      rw [o1, o2, hw]
      omega
    split at h
    · rename_i h9 h4
      obtain ⟨⟨M, n, k⟩, h1, h2⟩ := bnd_is h
      injection h2 with h2
      injection h2 with h3 h5
      subst h3 h5
      unfold itemsP at h1
      obtain ⟨a1, e1, h1⟩ := bnd_is h1
      obtain ⟨⟨M2, a2⟩, e2, h1⟩ := bnd_is h1
      obtain ⟨a3, e3, h1⟩ := bnd_is h1
      obtain ⟨a4, e4, h1⟩ := bnd_is h1
      obtain ⟨a5, e5, h1⟩ := bnd_is h1
      injection h1 with h1
      injection h1 with q5 q6
      injection q6 with q6 q7
      subst q5 q6 q7
      obtain ⟨rfl, _, b1⟩ := H.t (by decide) e1
      obtain ⟨y, A, la, F, rfl, hy1, hy2, h6, h7⟩ := ih _ _ _ _ rfl e2
      obtain ⟨rfl, _, b3⟩ := H.t (by decide) e3
      obtain ⟨rfl, b4⟩ := H.num e4
      obtain ⟨rfl, _, b5⟩ := H.t (by decide) e5
      have hW := WL.cons (k := (beg t).1) (x := y) (B := []) h6 (WL.none 0 _)
      rw [List.append_nil] at hW
      refine ⟨_, _, _, _, rfl, rfl, rfl, hW, ?_⟩
      have hw := beg_word (t := t) (y := { x with k := (beg t).1, n := (qAt qs (a2 + 1)).n, kids := 1 }) hb rfl (fun e => by simp only at e; omega) (fun e => by simp only at e; omega)
      have o1 := ol_list (x := { x with k := (beg t).1, n := (qAt qs (a2 + 1)).n, kids := 1 }) (by simp only; omega)
      have o2 := cl_list (x := { x with k := (beg t).1, n := (qAt qs (a2 + 1)).n, kids := 1 }) h4
      rw [hw] at o1
      have o3 := hl_0 y (k := (beg t).1) (by omega) (by omega)
      have s1 : (⟨#[60]⟩ : ByteArray).size = 1 := rfl
      have s2 : (⟨#[44]⟩ : ByteArray).size = 1 := rfl
      have s3 : (⟨#[62]⟩ : ByteArray).size = 1 := rfl
      simp only [sl_0] at *
      omega
    split at h
    · rename_i h9 h4 h6k
      obtain ⟨⟨M, k⟩, h1, h2⟩ := bnd_is h
      injection h2 with h2
      injection h2 with h3 h5
      subst h3 h5
      unfold optionP at h1
      obtain ⟨a1, e1, h1⟩ := bnd_is h1
      obtain ⟨⟨M2, a2⟩, e2, h1⟩ := bnd_is h1
      obtain ⟨a3, e3, h1⟩ := bnd_is h1
      injection h1 with h1
      injection h1 with q5 q6
      subst q5 q6
      obtain ⟨rfl, _, b1⟩ := H.t (by decide) e1
      obtain ⟨y, A, la, F, rfl, hy1, hy2, h6, h7⟩ := ih _ _ _ _ rfl e2
      obtain ⟨rfl, _, b3⟩ := H.t (by decide) e3
      have hW := WL.cons (k := (beg t).1) (x := y) (B := []) h6 (WL.none 0 _)
      rw [List.append_nil] at hW
      refine ⟨_, _, _, _, rfl, rfl, rfl, hW, ?_⟩
      have hw := beg_word (t := t) (y := { x with k := (beg t).1, n := (beg t).2, kids := 1 }) hb rfl (fun e => rfl) (fun e => by simp only at e; omega)
      have o1 := ol_list (x := { x with k := (beg t).1, n := (beg t).2, kids := 1 }) (by simp only; omega)
      have o2 := cl_opt (x := { x with k := (beg t).1, n := (beg t).2, kids := 1 }) h6k
      rw [hw] at o1
      have o3 := hl_0 y (k := (beg t).1) (by omega) (by omega)
      have s1 : (⟨#[60]⟩ : ByteArray).size = 1 := rfl
      have s3 : (⟨#[62]⟩ : ByteArray).size = 1 := rfl
      simp only [sl_0] at *
      omega
    split at h
    · rename_i h9 h4 h6k h7k
      obtain ⟨⟨M, c, k⟩, h1, h2⟩ := bnd_is h
      injection h2 with h2
      injection h2 with h3 h5
      subst h3 h5
      obtain ⟨l, F, hW, hp⟩ := parts_l H (.inl rfl) (arm_l H ih) h1
      refine ⟨_, _, l, F, rfl, rfl, rfl, by simp only [Int.toNat_natCast]; rw [h7k]; exact hW, ?_⟩
      have hw := beg_word (t := t) (y := { x with k := (beg t).1, n := (beg t).2, kids := (c : Int) }) hb rfl (fun e => rfl) (fun e => by simp only at e; omega)
      obtain ⟨o1, o2⟩ := ol_parts (x := { x with k := (beg t).1, n := (beg t).2, kids := (c : Int) }) (.inl h7k)
      rw [hw] at o1
      simp only at *
      omega
    split at h
    · rename_i h9 h4 h6k h7k h8k
      obtain ⟨⟨M, c, k⟩, h1, h2⟩ := bnd_is h
      injection h2 with h2
      injection h2 with h3 h5
      subst h3 h5
      obtain ⟨l, F, hW, hp⟩ := parts_l H (.inr rfl) (field_l H ih) h1
      refine ⟨_, _, l, F, rfl, rfl, rfl, by simp only [Int.toNat_natCast]; rw [h8k]; exact hW, ?_⟩
      have hw := beg_word (t := t) (y := { x with k := (beg t).1, n := (beg t).2, kids := (c : Int) }) hb rfl (fun e => rfl) (fun e => by simp only at e; omega)
      obtain ⟨o1, o2⟩ := ol_parts (x := { x with k := (beg t).1, n := (beg t).2, kids := (c : Int) }) (.inr h8k)
      rw [hw] at o1
      simp only at *
      omega
    · rename_i h9 h4 h6k h7k h8k
      injection h with h
      injection h with h1 h2
      subst h1 h2
      refine ⟨_, [], 0, 0, rfl, rfl, rfl, ?_, ?_⟩
      · simp only [hx0]; exact WL.none _ _
      have hw := beg_word (t := t) (y := { x with k := (beg t).1, n := (beg t).2 }) hb rfl (fun _ => rfl) (fun e => by simp only at e; omega)
      obtain ⟨o1, o2⟩ := ol_leaf (x := { x with k := (beg t).1, n := (beg t).2 }) (by simp only; omega) (by simp only; omega)
      rw [o1, o2, hw]
      omega
theorem def_l (H : Adv qs p) {i j : Nat} {d : Df} (h : defP qs i = .ok (d, j)) : i < qs.length ∧ isName (qAt qs i).t = true ∧ j ≤ qs.length ∧ ∃ l F, WL F 0 1 d.ty l ∧ p i + (d.name.size + (1 + (l + 1))) ≤ p j := by
  unfold defP at h
  obtain ⟨a1, e1, h⟩ := bnd_is h
  obtain ⟨a2, e2, h⟩ := bnd_is h
  obtain ⟨⟨N, a3⟩, e3, h⟩ := bnd_is h
  obtain ⟨a4, e4, h⟩ := bnd_is h
  injection h with h
  injection h with h1 h2
  subst h1 h2
  obtain ⟨rfl, b0, b1, b2⟩ := H.nm e1
  obtain ⟨rfl, _, b3⟩ := H.t (by decide) e2
  obtain ⟨y, A, la, F, rfl, _, _, h6, h7⟩ := node_l H 17 _ _ _ _ rfl e3
  obtain ⟨rfl, b5, b4⟩ := H.t (by decide) e4
  have hW := WL.cons (k := 0) (x := y) (B := []) h6 (WL.none 0 _)
  rw [List.append_nil] at hW
  refine ⟨b0, b1, b5, _, _, hW, ?_⟩
  have o3 := hl_0 y (k := 0) (by decide) (by decide)
  have s1 : (⟨#[61]⟩ : ByteArray).size = 1 := rfl
  have s2 : (⟨#[59]⟩ : ByteArray).size = 1 := rfl
  simp only [sl_0] at *
  omega
def DL : List Df → Nat → Prop
  | [], L => L = 0
  | d :: D, L => ∃ l F L', WL F 0 1 d.ty l ∧ DL D L' ∧ L = 5 + (d.name.size + (1 + (l + (1 + L'))))
theorem src_l (H : Adv qs p) : ∀ (f : Nat) (D : List Df) (i : Nat) (D' : List Df), srcP qs f D i = .ok D' → ∃ E L, D' = D ++ E ∧ DL E L ∧ p i + L ≤ p qs.length
  | 0, D, i, D', h => by cases h
  | f + 1, D, i, D', h => by
    unfold srcP at h
    split at h
    · obtain ⟨a1, e1, h⟩ := bnd_is h
      split at h
      · cases h
      obtain ⟨⟨d, j⟩, e2, h'⟩ := bnd_is h
      obtain ⟨rfl, b0, b1⟩ := H.t (by decide) e1
      have htp : (qAt qs i).t = ⟨#[116, 121, 112, 101]⟩ := of_decide_eq_true (tak_ok (by simpa only [txt] using e1)).2
      obtain ⟨c1, c2, c3, l, F, hW, c4⟩ := def_l H e2
      have hw := H.word i c1 htp c2
      obtain ⟨E, L, h1, h2, h3⟩ := src_l H f _ _ D' h'
      refine ⟨d :: E, _, by rw [h1]; simp, ⟨l, F, L, hW, h2, rfl⟩, ?_⟩
      simp only at h3 c4 hw ⊢
      omega
    · rename_i hi
      injection h with h
      subst h
      exact ⟨[], 0, by simp, rfl, by rw [H.last i (by omega)]; omega⟩
end
theorem dl_wds : ∀ (D D' : List Df) (L : Nat) (P : List (Q × List UInt8)), DL D L → WDS st0 D' P → D.map zDf = D'.map zDf → (txtP P).length = L
  | [], [], L, P, h, h', _ => by
    have h1 : L = 0 := h
    have h2 : P = [] := h'
    rw [h1, h2]
    rfl
  | [], d :: D, L, P, h, h', e => by cases e
  | d :: D, [], L, P, h, h', e => by cases e
  | d :: D, d' :: D', L, P, h, h', e => by
    simp only [List.map_cons] at e
    injection e with e1 e2
    obtain ⟨l, F, L', hW, hD, rfl⟩ := h
    obtain ⟨PN, PD, hN, hD', rfl⟩ := h'
    have n1 : d.name = d'.name := by have t := congrArg Df.name e1; exact t
    have n2 : d.ty.map zNd = d'.ty.map zNd := by have t := congrArg Df.ty e1; exact t
    have q1 := dl_wds D D' L' PD hD hD' e2
    have q2 := wl_one hW (ws_wl _ _ _ _ _ _ hN) n2
    simp [txtP, txtP_app, wbw, wbm, st0, n1, q1, q2]
    omega
end Go.Proofs.YtbfmoiaedopeiaaDoor

/- A printed text is the shortest, and tidy: plain. -/
namespace Go.Proofs.YtbfmoiaedopeiaaDoor
open Go.RowKit
set_option linter.unusedVariables false

def PlX : List Tk → List UInt8 → Nat → Prop
  | [], l, p => True
  | t :: ts, l, p => ∃ G w s, l = G ++ (w ++ s) ∧ Tw w ∧ Off w s ∧ t = tkW w (p + G.length) ∧ PlX ts s (p + G.length + w.length)
theorem placesX (l : List UInt8) (p : Nat) : (cut l p).2.1 = 0 → PlX (cut l p).1 l p := by
  refine cut_ind (fun l p => (cut l p).2.1 = 0 → PlX (cut l p).1 l p) ?_ ?_ ?_ ?_ ?_ ?_ l p
  · intro p _; rw [cut_nil]; trivial
  · intro c r p hb ih h
    rw [cut_blank r p hb] at h ⊢
    have ih := ih h
    revert ih
    cases (cut r (p + 1)).1 with
    | nil => intro ih; trivial
    | cons t ts =>
      rintro ⟨G, w, s, rfl, h2, ho, h3, h4⟩
      refine ⟨c :: G, w, s, rfl, h2, ho, ?_, ?_⟩
      · rw [h3]; congr 1; simp; omega
      · have e : p + (c :: G).length = p + 1 + G.length := by simp; omega
        rw [e]; exact h4
  · intro c r p hs h2 _
    rw [cut_end p hs h2]
    trivial
  · intro c r d s p hs h2 h3 ih h
    rw [cut_rem p hs h2 h3] at h ⊢
    have ih := ih h
    revert ih
    cases (cut s (p + 1 + r.length + 1)).1 with
    | nil => intro ih; trivial
    | cons t ts =>
      rintro ⟨G, w, s, rfl, k2, ho, k3, h4⟩
      refine ⟨c :: (r ++ d :: G), w, s, by simp, k2, ho, ?_, ?_⟩
      · rw [k3]; congr 1; simp; omega
      · have e : p + (c :: (r ++ d :: G)).length = p + 1 + r.length + 1 + G.length := by simp; omega
        rw [e]; exact h4
  · intro c r p hb hs he h
    rw [cut_bad r p hb hs he] at h
    exact absurd h he
  · intro w s p hw ho ih h
    rw [cut_word hw ho p] at h ⊢
    obtain ⟨h1, h2⟩ := app_ok h
    rw [h2]
    exact ⟨[], w, s, rfl, hw, ho, rfl, ih h1⟩
theorem plc_zero (t : Tk) (ts : List Tk) (L : Nat) : plc (t :: ts) L 0 = t.a := by unfold plc tkAt; rw [if_pos (by simp)]; rfl
theorem plc_succ (t : Tk) (ts : List Tk) (L j : Nat) : plc (t :: ts) L (j + 1) = plc ts L j := by
  unfold plc tkAt
  by_cases h : j < ts.length
  · rw [if_pos h, if_pos (by simp; exact h)]; rfl
  · rw [if_neg h, if_neg (by simp; omega)]
theorem plc_nil (L j : Nat) : plc [] L j = L := by unfold plc tkAt; rw [if_neg (by simp)]
/-- Token number j, and how far the next is. -/
def AtJ (ts : List Tk) (L j : Nat) : Prop := ∃ w, Tw w ∧ core (ts.getD j tk0) = core (tkW w 0) ∧ plc ts L j + w.length ≤ plc ts L (j + 1) ∧
  (∀ c r c2 r2 w2, w = c :: r → letter c = true → j + 1 < ts.length → Tw w2 → core (ts.getD (j + 1) tk0) = core (tkW w2 0) → w2 = c2 :: r2 → letter c2 = true → plc ts L j + w.length + 1 ≤ plc ts L (j + 1))
theorem core_tkW {w : List UInt8} (h : Tw w) (p : Nat) : core (tkW w p) = core (tkW w 0) := by
  obtain ⟨h1, h2, h3, _⟩ := tkW_is h p
  unfold core
  rw [h1, h2, h3]
theorem tk_text {w w2 : List UInt8} {c c2 : UInt8} {r r2 : List UInt8} (h : w = c :: r) (h2 : w2 = c2 :: r2) (hc2 : letter c2 = true) (e : core (tkW w 0) = core (tkW w2 0)) : w = w2 := by
  subst h h2
  have e2 : (tkW (c2 :: r2) 0).t = ⟨(c2 :: r2).toArray⟩ := by unfold tkW; simp only; rw [hc2]; rfl
  have e1 : (tkW (c :: r) 0).t = ⟨(c2 :: r2).toArray⟩ := by
    have := congrArg Q.t e
    exact this.trans e2
  unfold tkW at e1
  simp only at e1
  have key : ∀ l l' : List UInt8, (⟨l.toArray⟩ : ByteArray) = ⟨l'.toArray⟩ → l = l' := fun l l' h => by
    have := congrArg (fun b : ByteArray => b.data.toList) h
    simpa using this
  split at e1
  · exact key _ _ e1
  · split at e1
    · have := key [] (c2 :: r2) e1
      cases this
    · exact key _ _ e1
theorem at_all : ∀ (ts : List Tk) (l : List UInt8) (p L : Nat), PlX ts l p → L = p + l.length → ∀ j, j < ts.length → AtJ ts L j
  | [], l, p, L, h, hL, j, hj => by simp at hj
  | t :: ts, l, p, L, h, hL, j, hj => by
    obtain ⟨G, w, s, rfl, hw, ho, ht, h5⟩ := h
    have hL2 : L = p + G.length + w.length + s.length := by rw [hL]; simp; omega
    cases j with
    | succ j =>
      obtain ⟨w', k1, k2, k3, k4⟩ := at_all ts s _ L h5 hL2 j (by simpa using hj)
      refine ⟨w', k1, by simpa using k2, by rw [plc_succ, plc_succ]; exact k3, fun c r c2 r2 w2 e1 e2 e3 e4 e5 e6 e7 => ?_⟩
      rw [plc_succ, plc_succ]
      exact k4 c r c2 r2 w2 e1 e2 (by simpa using e3) e4 (by simpa using e5) e6 e7
    | zero =>
      have ha : t.a = p + G.length := by rw [ht]; exact (tkW_is hw _).2.2.2.1
      refine ⟨w, hw, by show core t = _; rw [ht]; exact core_tkW hw _, ?_, ?_⟩
      · rw [plc_zero, plc_succ, ha]
        cases ts with
        | nil => rw [plc_nil]; omega
        | cons t2 ts =>
          obtain ⟨G2, w2, s2, rfl, hw2, ho2, ht2, _⟩ := h5
          rw [plc_zero, ht2, (tkW_is hw2 _).2.2.2.1]
          omega
      · intro c r c2 r2 w2 e1 e2 e3 e4 e5 e6 e7
        rw [plc_zero, plc_succ, ha]
        cases ts with
        | nil => simp at e3
        | cons t2 ts =>
          obtain ⟨G2, w3, s2, rfl, hw3, ho2, ht2, _⟩ := h5
          rw [plc_zero, ht2, (tkW_is hw3 _).2.2.2.1]
          have e8 : core (tkW w3 0) = core (tkW w2 0) := by
            rw [← core_tkW hw3 (p + G.length + w.length + G2.length), ← ht2]
            exact e5
          obtain ⟨c3, r3, hc3, _⟩ := hw3
          have e9 : w3 = w2 := tk_text hc3 e6 e7 e8
          cases G2 with
          | cons g G2 => rw [List.length_cons]; omega
          | nil =>
            exfalso
            have hf := ho c r c2 (r2 ++ s2) e1 (by rw [e9, e6]; rfl)
            unfold follows at hf
            rw [e2, if_pos rfl] at hf
            unfold goes at hf
            rw [e7] at hf
            cases hf
theorem decF_short : ∀ (f k n : Nat), n < 10 ^ (k + 1) → (decF f n).length ≤ k + 1
  | 0, k, n, h => by simp [decF]
  | f + 1, k, n, h => by
    rw [decF]
    by_cases h10 : n < 10
    · rw [if_pos h10]; simp
    · rw [if_neg h10]
      cases k with
      | zero => simp at h; omega
      | succ k =>
        have := decF_short f k (n / 10) (Nat.div_lt_of_lt_mul (by rw [Nat.mul_comm]; rw [Nat.pow_succ] at h; exact h))
        simp
        omega
theorem adv_cut {s : ByteArray} (h : (cutT s).2.1 = 0) : Adv ((cutT s).1.map core) (plc (cutT s).1 s.size) := by
  have hsz : s.size ≤ 65536 := by
    unfold cutT at h
    split at h
    · cases h
    · omega
  have hc : cutT s = cut s.data.toList 0 := by unfold cutT; rw [if_neg (by omega)]
  have hP : PlX (cutT s).1 s.data.toList 0 := by rw [hc] at h ⊢; exact placesX _ _ h
  generalize (cutT s).1 = ts at *
  have hAll := at_all ts _ 0 s.size hP (by rw [Lib.size_eq]; simp)
  have hq : ∀ i, i < ts.length → qAt (ts.map core) i = core (ts.getD i tk0) := fun i hi => qAt_core hi
  refine ⟨fun i hi => ?_, fun i hi ht hn => ?_, fun i hi => ?_⟩
  · rw [List.length_map] at hi
    obtain ⟨w, k1, k2, k3, _⟩ := hAll i hi
    rw [hq i hi, k2]
    obtain ⟨c, r, rfl, hcl, hfo, her⟩ := k1
    unfold tkW core
    simp only
    cases hl : letter c with
    | true => rw [if_pos rfl]; refine .inl ⟨by simp, ?_⟩; show plc ts s.size i + (⟨(c :: r).toArray⟩ : ByteArray).size ≤ plc ts s.size (i + 1); rw [show (⟨(c :: r).toArray⟩ : ByteArray).size = (c :: r).length from by rw [Lib.size_eq]]; exact k3
    | false =>
      rw [if_neg (by simp)]
      cases hd : digit c with
      | true =>
        rw [if_pos rfl]
        refine .inr ⟨rfl, rfl, ?_⟩
        have hall : ∀ x ∈ c :: r, digit x = true := fun x hx => by
          rcases List.mem_cons.1 hx with rfl | hx
          · exact hd
          · have := hfo x hx
            unfold follows at this
            rw [hl, hd] at this
            exact this
        have h1 := num_lt (l := c :: r) (fun x hx => (of_decide_eq_true (hall x hx)).2)
        have h2 := decF_short 20 r.length (num (c :: r)) (by simpa using h1)
        simp only [Int.toNat_natCast]
        have e : dec (num (c :: r)) = decF 20 (num (c :: r)) := rfl
        rw [e]
        simp only [List.length_cons] at k3
        omega
      | false => rw [if_neg (by simp)]; refine .inl ⟨by simp, ?_⟩; show plc ts s.size i + (⟨(c :: r).toArray⟩ : ByteArray).size ≤ plc ts s.size (i + 1); rw [show (⟨(c :: r).toArray⟩ : ByteArray).size = (c :: r).length from by rw [Lib.size_eq]]; exact k3
  · rw [List.length_map] at hi
    obtain ⟨w, k1, k2, k3, k4⟩ := hAll i (by omega)
    obtain ⟨w2, j1, j2, _⟩ := hAll (i + 1) hi
    rw [hq i (by omega), k2] at ht
    rw [hq (i + 1) hi, j2] at hn
    have hw : w = [116, 121, 112, 101] := by
      obtain ⟨c, r, hcr, _⟩ := k1
      exact tk_text (w2 := [116, 121, 112, 101]) hcr rfl (by decide) (by
        unfold core at ht ⊢
        simp only at ht
        rcases tkW_text ⟨c, r, hcr, by assumption⟩ 0 with h0 | h0
        · rw [ht] at h0; cases h0
        · rw [ht] at h0
          have : w = [116, 121, 112, 101] := by
            have := congrArg (fun b : ByteArray => b.data.toList) h0
            simpa using this.symm
          rw [this])
    obtain ⟨c2, r2, hcr2, hx2⟩ := j1
    have hl2 : letter c2 = true := by
      have hn1 : isName (tkW w2 0).t = true := hn
      obtain ⟨g1, g2, g3, _⟩ := of_decide_eq_true hn1
      rcases tkW_text ⟨c2, r2, hcr2, hx2⟩ 0 with h0 | h0
      · omega
      · have g4 := g3 g1
        have e0 := at_list (tkW w2 0).t 0 g1
        have e2 : (tkW w2 0).t.data.toList = w2 := by rw [h0]
        have e3 : w2[0]? = some c2 := by rw [hcr2]; rfl
        rw [e2, e3] at e0
        have e1 := Option.some.inj e0
        rw [← e1] at g4
        exact g4
    have := k4 116 [121, 112, 101] c2 r2 w2 hw (by decide) hi ⟨c2, r2, hcr2, hx2⟩ j2 hcr2 hl2
    rw [hw] at this
    simp only [List.length_cons, List.length_nil] at this
    omega
  · rw [List.length_map] at hi ⊢
    unfold plc tkAt
    rw [if_neg (by omega), if_neg (by omega)]
/-! ### Which bytes a printed text has -/
def NoB (l : List UInt8) : Prop := ∀ b ∈ l, b ≠ 35 ∧ b ≠ 10 ∧ b ≠ 9 ∧ b ≠ 32
theorem NoB.app {l m : List UInt8} (h : NoB l) (k : NoB m) : NoB (l ++ m) := fun b hb => (List.mem_append.1 hb).elim (h b) (k b)
theorem nob_byte {x : UInt8} (h : (goes x || mark x) = true) : x ≠ 35 ∧ x ≠ 10 ∧ x ≠ 9 ∧ x ≠ 32 := by
  refine ⟨fun e => ?_, fun e => ?_, fun e => ?_, fun e => ?_⟩ <;> (subst e; revert h; decide)
theorem tw_nob {w : List UInt8} (h : Tw w) : NoB w := by
  obtain ⟨c, r, rfl, hc, hf, _⟩ := h
  intro b hb
  apply nob_byte
  rcases List.mem_cons.1 hb with rfl | hb
  · unfold goes
    revert hc
    cases letter b <;> cases digit b <;> cases mark b <;> simp
  · have h1 := hf b hb
    unfold follows at h1
    split at h1
    · rw [h1]; rfl
    · split at h1
      · unfold goes; rw [h1]; simp
      · cases h1
theorem oks_good : ∀ {P : List (Q × List UInt8)} {S : List UInt8}, OkS P S → ∀ p ∈ P, GoodQ p.1
  | [], S, h, p, hp => by cases hp
  | q :: P, S, h, p, hp => by
    rcases List.mem_cons.1 hp with rfl | hp
    · exact h.1
    · exact oks_good h.2.2.2 p hp
theorem fill_nil (k : Int) (x : Nd) (n : Nat) : (∀ p ∈ hdS st0 k x, p.2 = []) ∧ (∀ p ∈ opnS st0 x, p.2 = []) ∧ (∀ p ∈ clsS st0 x, p.2 = []) ∧ (∀ p ∈ sepS k n, p.2 = []) := by
  refine ⟨fun p hp => ?_, fun p hp => ?_, fun p hp => ?_, fun p hp => ?_⟩
  · unfold hdS at hp
    split at hp
    · simp [st0] at hp; rcases hp with rfl | rfl <;> rfl
    · split at hp
      · simp [st0] at hp; rcases hp with rfl | rfl <;> rfl
      · cases hp
  · unfold opnS at hp
    split at hp
    · simp [st0] at hp; rcases hp with rfl | rfl <;> rfl
    · split at hp
      · simp [st0] at hp; rcases hp with rfl | rfl <;> rfl
      · simp at hp; rw [hp]
  · unfold clsS at hp
    split at hp
    · simp [st0] at hp; rcases hp with rfl | rfl | rfl <;> rfl
    · split at hp
      · simp at hp; rw [hp]
      · split at hp
        · simp at hp; rw [hp]
        · cases hp
  · unfold sepS at hp
    split at hp
    · simp at hp; rw [hp]
    · cases hp
theorem ws_fill : ∀ (fu d : Nat) (k : Int) (n : Nat) (N : List Nd) (P : List (Q × List UInt8)), WS st0 fu d k n N P → ∀ p ∈ P, p.2 = []
  | 0, d, k, n, N, P, h, p, hp => by obtain ⟨_, _, rfl⟩ := h; cases hp
  | fu + 1, d, k, 0, N, P, h, p, hp => by obtain ⟨_, rfl⟩ := h; cases hp
  | fu + 1, d, k, n + 1, N, P, h, p, hp => by
    obtain ⟨x, A, B, PA, PB, h1, h2, hA, hB, rfl⟩ := h
    obtain ⟨f1, f2, f3, f4⟩ := fill_nil k x n
    simp only [List.mem_append] at hp
    rcases hp with hp | hp | hp | hp | hp | hp
    · exact f1 p hp
    · exact f2 p hp
    · exact ws_fill fu _ _ _ _ _ hA p hp
    · exact f3 p hp
    · exact f4 p hp
    · exact ws_fill fu _ _ _ _ _ hB p hp
theorem txt_nob : ∀ (P : List (Q × List UInt8)), (∀ p ∈ P, GoodQ p.1 ∧ p.2 = []) → NoB (txtP P)
  | [], h => fun b hb => by cases hb
  | p :: P, h => by
    obtain ⟨h1, h2⟩ := h p (by simp)
    unfold txtP
    rw [h2]
    exact (tw_nob (good_tw h1).1).app (txt_nob P (fun q hq => h q (by simp [hq])))
/-- No byte but those that may be; a blank stands behind 'type' alone; so many blanks. -/
def Tidy (l : List UInt8) (n : Nat) : Prop := (∀ i b, l[i]? = some b → b ≠ 35 ∧ b ≠ 10 ∧ b ≠ 9 ∧ (b = 32 → 4 ≤ i ∧ (l.drop (i - 4)).take 4 = [116, 121, 112, 101])) ∧ l.count 32 = n
theorem Tidy.nob {l : List UInt8} (h : NoB l) : Tidy l 0 := by
  refine ⟨fun i b hb => ?_, List.count_eq_zero.2 (fun hm => (h 32 hm).2.2.2 rfl)⟩
  have := h b (List.mem_of_getElem? hb)
  exact ⟨this.1, this.2.1, this.2.2.1, fun e => absurd e this.2.2.2⟩
theorem Tidy.app {l m : List UInt8} {n k : Nat} (h : Tidy l n) (g : Tidy m k) : Tidy (l ++ m) (n + k) := by
  refine ⟨fun i b hb => ?_, by rw [List.count_append, h.2, g.2]⟩
  rcases Nat.lt_or_ge i l.length with hi | hi
  · rw [List.getElem?_append_left hi] at hb
    obtain ⟨h1, h2, h3, h4⟩ := h.1 i b hb
    refine ⟨h1, h2, h3, fun e => ?_⟩
    obtain ⟨h5, h6⟩ := h4 e
    refine ⟨h5, ?_⟩
    rw [List.drop_append_of_le_length (by omega), List.take_append_of_le_length (by rw [List.length_drop]; omega), h6]
  · rw [List.getElem?_append_right hi] at hb
    obtain ⟨h1, h2, h3, h4⟩ := g.1 _ b hb
    refine ⟨h1, h2, h3, fun e => ?_⟩
    obtain ⟨h5, h6⟩ := h4 e
    refine ⟨by omega, ?_⟩
    have e2 : i - 4 = l.length + (i - l.length - 4) := by omega
    rw [e2, ← List.drop_drop, List.drop_left' rfl, h6]
theorem tidy_type : Tidy [116, 121, 112, 101, 32] 1 := by
  refine ⟨fun i b hb => ?_, by decide⟩
  have hi : i < 5 := (List.getElem?_eq_some_iff.1 hb).1
  have : i = 0 ∨ i = 1 ∨ i = 2 ∨ i = 3 ∨ i = 4 := by omega
  rcases this with rfl | rfl | rfl | rfl | rfl <;> (simp at hb; subst hb; decide)
theorem wds_tidy : ∀ (D : List Df) (P : List (Q × List UInt8)), WDS st0 D P → (∀ d ∈ D, isName d.name = true) → Tidy (txtP P) D.length
  | [], P, h, _ => by have h' : P = [] := h; subst h'; exact Tidy.nob (fun b hb => by cases hb)
  | d :: D, P, h, hn => by
    obtain ⟨PN, PD, hN, hD, rfl⟩ := h
    have ih := wds_tidy D PD hD (fun e he => hn e (by simp [he]))
    have h1 := ws_ok st0_ok _ _ _ _ _ _ (txtP ((qm 59, st0.semi) :: PD) ++ []) hN (by omega) (stop_mark (by decide) _ _ _)
    have n1 : NoB (txtP PN) := txt_nob PN (fun p hp => ⟨oks_good h1 p hp, ws_fill _ _ _ _ _ _ hN p hp⟩)
    have n2 : NoB d.name.data.toList := by
      have := tw_nob (good_tw (good_name (hn d (by simp)))).1
      rwa [wbw] at this
    have n3 : NoB [61] := fun b hb => by obtain rfl := List.mem_singleton.1 hb; decide
    have n4 : NoB [59] := fun b hb => by obtain rfl := List.mem_singleton.1 hb; decide
    have e : txtP ((qw ⟨#[116, 121, 112, 101]⟩, [32]) :: (qw d.name, st0.eq1) :: (qm 61, st0.eq2) :: (PN ++ ((qm 59, st0.semi) :: PD))) = [116, 121, 112, 101, 32] ++ ((d.name.data.toList ++ ([61] ++ (txtP PN ++ [59]))) ++ txtP PD) := by
      simp [txtP, txtP_app, wbw, wbm, st0]
    rw [e]
    have := tidy_type.app ((Tidy.nob (n2.app (n3.app (n1.app n4)))).app ih)
    rw [List.length_cons, show D.length + 1 = 1 + (0 + D.length) by omega]
    exact this
/-- Of a text that is parsed the printed one is no longer, and tidy. -/
theorem short_plain {s : ByteArray} {D : List Df} (h : prsT s = (D, 0, 0)) {X : ByteArray} {c : Int} (hp : PrT D X c) : c = 0 ∧ X.size ≤ s.size ∧ Tidy X.data.toList D.length ∧ X.size ≤ 65536 := by
  have hck : (ckP D).2.2 = 0 := by
    have := prs_check (s := s) (by rw [h])
    rw [h] at this
    rw [this]
  have key : (cutT s).2.1 = 0 ∧ ∃ D0, srcP ((cutT s).1.map core) 257 [] 0 = .ok D0 ∧ D = D0.map (dfP (cutT s).1 s.size) := by
    have h' := h
    unfold prsT at h'
    by_cases h0 : (cutT s).2.1 = 0
    · rw [if_pos h0] at h'
      unfold prsP at h'
      cases hs : srcP ((cutT s).1.map core) 257 [] 0 with
      | error e =>
        rw [hs] at h'
        have he : e.1 ≠ 0 := src_err0 hs
        injection h' with _ h'
        injection h' with h' _
        exact absurd h' he
      | ok D0 =>
        rw [hs] at h'
        injection h' with h' _
        exact ⟨h0, D0, rfl, h'.symm⟩
    · rw [if_neg h0] at h'
      injection h' with _ h'
      injection h' with h' _
      exact absurd h' h0
  obtain ⟨h0, D0, hs, hD⟩ := key
  have hsz : s.size ≤ 65536 := by
    unfold cutT at h0
    split at h0
    · cases h0
    · omega
  obtain ⟨E, L, h1, h2, h3⟩ := src_l (adv_cut h0) 257 [] 0 D0 hs
  rw [List.nil_append] at h1
  subst h1
  have hz : D0.map zDf = D.map zDf := by
    rw [hD, List.map_map]
    exact (List.map_congr_left fun d _ => zDf_dfP _ _ d).symm
  have hlast : plc (cutT s).1 s.size ((cutT s).1.map core).length = s.size := by
    unfold plc tkAt
    rw [if_neg (by simp)]
  rw [hlast] at h3
  rcases hp with ⟨k1, _⟩ | ⟨_, P, k2, k3⟩
  · exact absurd hck k1
  · have hl := dl_wds D0 D L P h2 k2 hz
    rcases k3 with ⟨k3, _⟩ | ⟨k3, rfl, rfl⟩
    · omega
    · have hxs : (⟨(txtP P).toArray⟩ : ByteArray).size = (txtP P).length := by rw [Lib.size_eq]
      refine ⟨rfl, by rw [hxs]; omega, ?_, by rw [hxs]; exact k3⟩
      exact wds_tidy D P k2 (fun d hd => ((ckP_all hck).2 d hd).1)
end Go.Proofs.YtbfmoiaedopeiaaDoor
