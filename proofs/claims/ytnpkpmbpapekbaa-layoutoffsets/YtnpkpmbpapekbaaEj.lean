/- LayoutOffsets: its walk. -/
import Derived.Test.YtnpkpmbpapekbaaEh
import Derived.Test.YtnpkpmbpapekbaaEd
namespace Go.Proofs.Ytnpkpmbpapekbaa
open Go.RowKit
set_option linter.unusedVariables false

/-- A list of integers of the call's own whose block lies between lo and hi. -/
def Lot (w : World) (v : Value) (l : List Int) (lo hi : Nat) : Prop := IOwn w lo v l ∧ ∀ k, v.ownBlock = some k → k < hi
theorem Lot.of {w w' : World} {v : Value} {l : List Int} (h : OwnTo w v l w') : Lot w' v l w.heap.size w'.heap.size := ⟨h.1, fun k hk => (h.1.lies hk).2⟩
theorem Lot.later {w w' : World} {v : Value} {l : List Int} {lo hi : Nat} (h : Lot w v l lo hi) (hB : Below w.heap.size w w') : Lot w' v l lo hi := ⟨h.1.later hB, h.2⟩
theorem Lot.upd {w w' : World} {v : Value} {l : List Int} {lo hi : Nat} {S : Nat → Prop} (h : Lot w v l lo hi) (hu : Upd S w w') (hs : ∀ k, lo ≤ k → k < hi → ¬ S k) : Lot w' v l lo hi := ⟨h.1.upd hu (fun k hk => hs k (h.1.lies hk).1 (h.2 k hk)), h.2⟩
theorem Lot.row {w : World} {v : Value} {l : List Int} {lo hi : Nat} (h : Lot w v l lo hi) : ∃ a c, v = .slice a l.length c ∧ Row .i64 w a l := by
  obtain ⟨a, c, e, h1, _⟩ := h.1.row
  exact ⟨a, c, e, h1⟩
theorem offA_len (f : Int) (l : List Int) : (offA f l).1.length ≤ l.length := by
  unfold offA
  split
  · simp
  · split
    · simp
    · simp [offL_len]
theorem lenA_len (f : Int) (l : List Int) (E : Int) : (lenA f l E).1.length ≤ l.length := by
  unfold lenA
  split
  · simp
  · split
    · simp
    · simp [lenL_len]
theorem emptyI (w : World) : IOwn (w.alloc (.cells #[] 3)) w.heap.size (.slice (some ⟨w.heap.size, 0, none⟩) 0 0) [] := by
  have h := ownS_of_blk (c := 1) (n := 0) (cap := 0) (Blk.newA w #[] 3) (Nat.le_refl _) (by simp) (Nat.zero_le _) (by unfold maxLen; omega)
  simpa [IOwn, cellsL] using h
/-- append([]int{}, x...), then one more: a new list. -/
theorem run_long (w : World) (a : Option Addr) (c : Nat) (l : List Int) (x : Int) (hl : l.length ≤ 17592186044415) (hr : Row .i64 w a l) (hnil : a = none → c = 0) :
    ∃ a1 c1 w1 g cap w2, (Builtin.append_ #[22, 22] 22 #[.slice (some ⟨w.heap.size, 0, none⟩) 0 0, .slice a l.length c]).run Try.prog (w.alloc (.cells #[] 3)) = .ok (.slice a1 l.length c1) w1 ∧
      (Builtin.append_ #[22, 22] 22 #[.slice a1 l.length c1, .slice (some ⟨w1.heap.size, 0, none⟩) 1 1]).run Try.prog (w1.alloc (.cells #[.int .i64 x] 3)) = .ok (.slice (some ⟨g, 0, none⟩) (l.length + 1) cap) w2 ∧
      IOwn w2 w.heap.size (.slice (some ⟨g, 0, none⟩) (l.length + 1) cap) (l ++ [x]) ∧ Below w.heap.size w w2 := by
  have hB0 := below1 w (.cells #[] 3)
  have hb0 : w.heap.size ≤ (w.alloc (.cells #[] 3)).heap.size := hB0.size
  obtain ⟨v1, w1, h1, h2, h3⟩ := run_app elI (w.alloc (.cells #[] 3)) 22 w.heap.size _ 0 [] (emptyI w) a l.length c l rfl (hr.later hB0) hnil (by unfold maxLen; omega) (by omega) hb0
  rw [Nat.zero_add, List.nil_append] at h2
  have h2' : IOwn w1 w.heap.size v1 l := h2
  have hU1 : Upd (fun k => w.heap.size ≤ k) w w1 := (Upd.of_below hB0).grown h3 (fun k hk => .inr (by have := own_is hk; omega))
  have hB1 : Below w.heap.size w w1 := hU1.below _ (Nat.le_refl _) (fun k hk => hk)
  obtain ⟨a1, c1, e1⟩ := h2'.slice
  subst e1
  obtain ⟨g, cap, w2, h4, h5, h6, -⟩ := h2'.push x hl hB1.size
  refine ⟨a1, c1, w1, g, cap, w2, h1, h4, h5, hB1.trans (h6.below _ hB1.size (fun k hk => (h2'.lies hk).1))⟩
theorem bne_self_ (x : Int) : (x != x) = false := by simp
theorem lot_at {w : World} {l : List Int} {B g n cap i : Nat} (h : IOwn w B (.slice (some ⟨g, 0, none⟩) n cap) l) (hi : i < l.length) : w.cell? ⟨g, i, none⟩ = some (.int .i64 (l.getD i 0)) ∧ w.frozen? ⟨g, i, none⟩ = false := by
  obtain ⟨a, c, e, -, -, -, -, h2⟩ := own_open h rfl
  obtain ⟨g', e2, -, -, hc, hf⟩ := h2 (by omega)
  injection e with e1 _ _
  rw [e2] at e1
  injection e1 with e1
  injection e1 with e1 _ _
  subst e1
  exact ⟨hc i hi, hf i⟩
theorem getD_last (l : List Int) (x : Int) : (l ++ [x]).getD l.length 0 = x := by simp [List.getD]
set_option maxRecDepth 100000 in
set_option maxHeartbeats 16000000 in
theorem offs_any (f E : Int) (a : Option Addr) (c : Nat) (l : List Int) (w : World) (hE : E ≤ 9223372036854775807) (hn : l.length ≤ 17592186044414) (hnil : a = none → c = 0) (hr : Hid (Row .i64 w a l)) :
    Calls Try.prog 5 #[.int .i64 f, .slice a l.length c, .int .i64 E] w fun e w' => e = .returned (.bool true) ∧ Below w.heap.size w w' := by
  have HAw := hide_ (awake_any w)
  have hn1 : l.length ≤ 17592186044415 := by omega
  go_enter Try.func5, Try.ntmps5
  go_wp2_with fail
  refine HAw.out.mono ?_
  rintro e w1 ⟨rfl, hB1⟩
  have HB1 := hide_ hB1
  obtain ⟨a2, c2, w2, g, cap, w3, hrun1, hrun2, hOl, hB3⟩ := run_long w1 a c l 1234567 hn1 (hr.out.later hB1) hnil
  have HR1 := hide_ hrun1
  have HR2 := hide_ hrun2
  have HLg : Hid (Lot w3 (.slice (some ⟨g, 0, none⟩) (l.length + 1) cap) (l ++ [1234567]) w1.heap.size w3.heap.size) := hide_ ⟨hOl, fun k hk => (hOl.lies hk).2⟩
  have HBl1 := hide_ hB3
  have HB3 := hide_ (below_to hB1 hB3)
  have hcap : l.length ≤ cap := by
    obtain ⟨a9, c9, e9, -, -, h9⟩ := hOl.row
    injection e9 with _ _ e9
    subst e9
    simp at h9
    omega
  have hcap' : (l.length : Int) ≤ cap := by omega
  have Hin : Hid (∀ w', Lot w' (.slice (some ⟨g, 0, none⟩) (l.length + 1) cap) (l ++ [1234567]) w1.heap.size w3.heap.size → Row .i64 w' (some ⟨g, 0, none⟩) l) := hide_ (fun w' h => by
    obtain ⟨a9, c9, e9, h9⟩ := h.row
    injection e9 with e9 _ _
    subst e9
    have := h9.take l.length
    rw [List.take_left] at this
    exact this)
  have hge : (0 : Int) ≤ l.length := by omega
  clear HAw hrun1 hrun2 hB1 hB3 hOl
  go_upto_region 4 with (first | (at_builtin; refine wpList_append_run rfl (.tmp 28) (.tmp 29) 22 22 rfl rfl rfl HR1.out ?_) | (at_builtin; refine wpList_append_run rfl (.tmp 30) (.tmp 31) 22 22 rfl rfl rfl HR2.out ?_) | fail)
  clear HR1 HR2
  obtain ⟨r, hrr⟩ : ∃ r, offA f l = r := ⟨_, rfl⟩
  obtain ⟨r', hrr'⟩ : ∃ r, lenA f l E = r := ⟨_, rfl⟩
  have hol := offA_len f l
  have hll := lenA_len f l E
  rw [hrr] at hol
  rw [hrr'] at hll
  obtain ⟨ol, oe⟩ := r
  obtain ⟨ll, lat, le⟩ := r'
  simp only at hol hll
  have HCo : Hid (∀ (w' : World) (aa : Option Addr) (cc : Nat), Row .i64 w' aa l → Calls Try.prog 8 #[.int .i64 f, .slice aa l.length cc] w' fun e w2 => ∃ v, e = .returned (.tuple #[v, .int .i64 oe]) ∧ Hid (OwnTo w' v ol w2)) := hide_ (fun w' aa cc h => by have h := offsets_any f aa cc l w' hn1 (hide_ h); rw [hrr] at h; exact h)
  have HCr : Hid (∀ (w' : World), Row .i64 w' a l → Calls Try.prog 14 #[.int .i64 f, .slice a l.length c] w' fun e w2 => ∃ v, e = .returned (.tuple #[v, .int .i64 oe]) ∧ Hid (OwnTo w' v ol w2)) := hide_ (fun w' h => by have h := offsetsR_any f a c l w' hn1 (hide_ h); rw [hrr] at h; exact h)
  have HCl : Hid (∀ (w' : World) (aa : Option Addr) (cc : Nat), Row .i64 w' aa l → Calls Try.prog 9 #[.int .i64 f, .slice aa l.length cc, .int .i64 E] w' fun e w2 => ∃ v, e = .returned (.tuple #[v, .int .i64 lat, .int .i64 le]) ∧ Hid (OwnTo w' v ll w2)) := hide_ (fun w' aa cc h => by have h := lengths_any f E aa cc l w' hn1 hE (hide_ h); rw [hrr'] at h; exact h)
  have HCm : Hid (∀ (w' : World), Row .i64 w' a l → Calls Try.prog 15 #[.int .i64 f, .slice a l.length c, .int .i64 E] w' fun e w2 => ∃ v, e = .returned (.tuple #[v, .int .i64 lat, .int .i64 le]) ∧ Hid (OwnTo w' v ll w2)) := hide_ (fun w' h => by have h := lengthsR_any f E a c l w' hn1 hE (hide_ h); rw [hrr'] at h; exact h)
  have HSm : Hid (∀ (w' : World) (a1 a2 : Option Addr) (c1 c2 : Nat) (m : List Int), m.length ≤ 17592186044415 → Row .i64 w' a1 m → Row .i64 w' a2 m → Calls Try.prog 10 #[.slice a1 m.length c1, .slice a2 m.length c2] w' fun e w2 => e = .returned (.bool true) ∧ Below w'.heap.size w' w2) := hide_ (fun w' a1 a2 c1 c2 m hm h1 h2 => by have h := same_any a1 a2 c1 c2 m m w' (by omega) (by omega) (hide_ h1) (hide_ h2); rw [decide_eq_true rfl] at h; exact h)
  clear hrr hrr'
  go_wp2_with fail
  refine (HCo.out w3 _ _ (Hin.out _ HLg.out)).mono ?_
  rintro e w4 ⟨v4, rfl, HT4⟩
  have HL4 := hide_ (Lot.of HT4.out)
  have HBB4 := hide_ HT4.out.2
  have hz4 : w3.heap.size ≤ w4.heap.size := HT4.out.2.size
  obtain ⟨a4, c4, hv4, -⟩ := HL4.out.row
  subst hv4
  clear HT4
  have HLg4 := hide_ (HLg.out.later HBB4.out)
  go_wp2_with fail
  refine (HCo.out w4 _ _ (Hin.out _ HLg4.out)).mono ?_
  rintro e w5 ⟨v5, rfl, HT5⟩
  have HL5 := hide_ (Lot.of HT5.out)
  have HBB5 := hide_ HT5.out.2
  have hz5 : w4.heap.size ≤ w5.heap.size := HT5.out.2.size
  obtain ⟨a5, c5, hv5, -⟩ := HL5.out.row
  subst hv5
  clear HT5
  have HLg5 := hide_ (HLg4.out.later HBB5.out)
  have HL4_5 := hide_ (HL4.out.later HBB5.out)
  go_wp2_with fail
  refine (HCl.out w5 _ _ (Hin.out _ HLg5.out)).mono ?_
  rintro e w6 ⟨v6, rfl, HT6⟩
  have HL6 := hide_ (Lot.of HT6.out)
  have HBB6 := hide_ HT6.out.2
  have hz6 : w5.heap.size ≤ w6.heap.size := HT6.out.2.size
  obtain ⟨a6, c6, hv6, -⟩ := HL6.out.row
  subst hv6
  clear HT6
  have HLg6 := hide_ (HLg5.out.later HBB6.out)
  have HL4_6 := hide_ (HL4_5.out.later HBB6.out)
  have HL5_6 := hide_ (HL5.out.later HBB6.out)
  go_wp2_with fail
  refine (HCl.out w6 _ _ (Hin.out _ HLg6.out)).mono ?_
  rintro e w7 ⟨v7, rfl, HT7⟩
  have HL7 := hide_ (Lot.of HT7.out)
  have HBB7 := hide_ HT7.out.2
  have hz7 : w6.heap.size ≤ w7.heap.size := HT7.out.2.size
  obtain ⟨a7, c7, hv7, -⟩ := HL7.out.row
  subst hv7
  clear HT7
  have HB37 := hide_ (below_to HBB4.out (below_to HBB5.out (below_to HBB6.out HBB7.out)))
  have HLg7 := hide_ (HLg6.out.later HBB7.out)
  have HL4_7 := hide_ (HL4_6.out.later HBB7.out)
  have HL5_7 := hide_ (HL5_6.out.later HBB7.out)
  have HL6_7 := hide_ (HL6.out.later HBB7.out)
  have Hr7 := hide_ (hr.out.later (below_to HB3.out HB37.out))
  go_wp2_with fail
  refine (HCr.out w7 Hr7.out).mono ?_
  rintro e w8 ⟨v8, rfl, HT8⟩
  have HL8 := hide_ (Lot.of HT8.out)
  have HBB8 := hide_ HT8.out.2
  have hz8 : w7.heap.size ≤ w8.heap.size := HT8.out.2.size
  obtain ⟨a8, c8, hv8, -⟩ := HL8.out.row
  subst hv8
  clear HT8
  have Hr8 := hide_ (Hr7.out.later HBB8.out)
  go_wp2_with fail
  refine (HCm.out w8 Hr8.out).mono ?_
  rintro e w9 ⟨v9, rfl, HT9⟩
  have HL9 := hide_ (Lot.of HT9.out)
  have HBB9 := hide_ HT9.out.2
  have hz9 : w8.heap.size ≤ w9.heap.size := HT9.out.2.size
  obtain ⟨a9, c9, hv9, -⟩ := HL9.out.row
  subst hv9
  clear HT9
  have HB79 := hide_ (below_to HBB8.out HBB9.out)
  have HLgZ := hide_ (HLg7.out.later HB79.out)
  have HA := hide_ (HL4_7.out.later HB79.out)
  have HC := hide_ (HL5_7.out.later HB79.out)
  have HBl := hide_ (HL6_7.out.later HB79.out)
  have HD := hide_ (HL7.out.later HB79.out)
  have HX := hide_ (HL8.out.later HBB9.out)
  have HU := HL9
  have HB9 := hide_ (below_to HB3.out (below_to HB37.out HB79.out))
  have hne1 := bne_self_ oe
  have hne2 := bne_self_ le
  have hne3 := bne_self_ lat
  clear HLg HLg4 HLg5 HLg6 HLg7 HL4 HL4_5 HL4_6 HL4_7 HL5 HL5_6 HL5_7 HL6 HL6_7 HL7 HL8 HL9 HBB4 HBB5 HBB6 HBB7 HBB8 HBB9 HB37 HB79 HCo HCr HCl HCm Hr7 Hr8
  go_wp2_with fail
  refine (HSm.out w9 _ _ _ _ ol (by omega) (by obtain ⟨a9, c9, e9, h9⟩ := HA.out.row; injection e9 with e9 _ _; rw [e9]; exact h9) (by obtain ⟨a9, c9, e9, h9⟩ := HX.out.row; injection e9 with e9 _ _; rw [e9]; exact h9)).mono ?_
  rintro e w10 ⟨rfl, hB⟩
  have HLgZ := hide_ (HLgZ.out.later hB)
  have HA := hide_ (HA.out.later hB)
  have HC := hide_ (HC.out.later hB)
  have HBl := hide_ (HBl.out.later hB)
  have HD := hide_ (HD.out.later hB)
  have HX := hide_ (HX.out.later hB)
  have HU := hide_ (HU.out.later hB)
  have HB10 := hide_ (below_to HB9.out hB)
  have hzz10 : w9.heap.size ≤ w10.heap.size := hB.size
  clear hB HB9
  go_wp2_with fail
  refine (HSm.out w10 _ _ _ _ ll (by omega) (by obtain ⟨a9, c9, e9, h9⟩ := HBl.out.row; injection e9 with e9 _ _; rw [e9]; exact h9) (by obtain ⟨a9, c9, e9, h9⟩ := HU.out.row; injection e9 with e9 _ _; rw [e9]; exact h9)).mono ?_
  rintro e w11 ⟨rfl, hB⟩
  have HLgZ := hide_ (HLgZ.out.later hB)
  have HA := hide_ (HA.out.later hB)
  have HC := hide_ (HC.out.later hB)
  have HBl := hide_ (HBl.out.later hB)
  have HD := hide_ (HD.out.later hB)
  have HX := hide_ (HX.out.later hB)
  have HU := hide_ (HU.out.later hB)
  have HB11 := hide_ (below_to HB10.out hB)
  have hzz11 : w10.heap.size ≤ w11.heap.size := hB.size
  clear hB HB10
  go_wp2_with fail
  refine (HSm.out w11 _ _ _ _ ol (by omega) (by obtain ⟨a9, c9, e9, h9⟩ := HC.out.row; injection e9 with e9 _ _; rw [e9]; exact h9) (by obtain ⟨a9, c9, e9, h9⟩ := HX.out.row; injection e9 with e9 _ _; rw [e9]; exact h9)).mono ?_
  rintro e w12 ⟨rfl, hB⟩
  have HLgZ := hide_ (HLgZ.out.later hB)
  have HA := hide_ (HA.out.later hB)
  have HC := hide_ (HC.out.later hB)
  have HBl := hide_ (HBl.out.later hB)
  have HD := hide_ (HD.out.later hB)
  have HX := hide_ (HX.out.later hB)
  have HU := hide_ (HU.out.later hB)
  have HB12 := hide_ (below_to HB11.out hB)
  have hzz12 : w11.heap.size ≤ w12.heap.size := hB.size
  clear hB HB11
  go_wp2_with fail
  refine (HSm.out w12 _ _ _ _ ll (by omega) (by obtain ⟨a9, c9, e9, h9⟩ := HD.out.row; injection e9 with e9 _ _; rw [e9]; exact h9) (by obtain ⟨a9, c9, e9, h9⟩ := HU.out.row; injection e9 with e9 _ _; rw [e9]; exact h9)).mono ?_
  rintro e w13 ⟨rfl, hB⟩
  have HLgZ := hide_ (HLgZ.out.later hB)
  have HA := hide_ (HA.out.later hB)
  have HC := hide_ (HC.out.later hB)
  have HBl := hide_ (HBl.out.later hB)
  have HD := hide_ (HD.out.later hB)
  have HX := hide_ (HX.out.later hB)
  have HU := hide_ (HU.out.later hB)
  have HB13 := hide_ (below_to HB12.out hB)
  have hzz13 : w12.heap.size ≤ w13.heap.size := hB.size
  clear hB HB12
  go_wp2_with fail
  go_loopw [24] (fun x24 wr => ∃ (i : Nat) (m : List Int), i ≤ ol.length ∧ x24 = .int .i64 (i : Int) ∧ Hid (m.length = ol.length) ∧ Hid (Lot wr (.slice a4 ol.length c4) m w3.heap.size w4.heap.size) ∧ Hid (Upd (fun k => w3.heap.size ≤ k ∧ k < w4.heap.size) w13 wr)) (fun x24 _ => ol.length - (intOf x24).toNat)
  case atStart => exact ⟨0, ol, Nat.zero_le _, rfl, hide_ rfl, HA, hide_ (Upd.refl _ _)⟩
  case round =>
    obtain ⟨i, m, hi, rfl, HM, HAr, HUr⟩ := hrel
    generalize wr = wq at *
    by_cases hlt : i < ol.length
    · have hlt' : (i : Int) < ol.length := by omega
      have hml : 0 < m.length := by have := HM.out; omega
      obtain ⟨g4, cap4, ys4, e4, -⟩ := ownS_blk HAr.out.1 hml
      injection e4 with e41 _ e43
      subst e41 e43
      have him : i < m.length := by have := HM.out; omega
      obtain ⟨x0, xf⟩ := lot_at HAr.out.1 him
      generalize m.getD i 0 = q at *
      have HS := hide_ (HAr.out.1.set him (-7))
      have hgl := (HAr.out.1.lies (k := g4) rfl).1
      have hgh := HAr.out.2 g4 rfl
      have HA2 : Hid (Lot (wq.setCell ⟨g4, i, none⟩ (.int .i64 (-7))) (.slice (some ⟨g4, 0, none⟩) ol.length c4) (m.set i (-7)) w3.heap.size w4.heap.size) := hide_ ⟨HS.out, HAr.out.2⟩
      have HM2 : Hid ((m.set i (-7)).length = ol.length) := hide_ (by rw [List.length_set]; exact HM.out)
      have HU2 := hide_ (HUr.out.set ⟨g4, i, none⟩ (.int .i64 (-7)) (.inl ⟨hgl, hgh⟩))
      clear hgl hgh him hml
      go_wp2_with fail
      go_roundw
      case rel => exact ⟨i + 1, _, by omega, by go_num, HM2, HA2, HU2⟩
      case measure => simp [intOf]; omega
    · obtain rfl : i = ol.length := by omega
      have HLg2 := hide_ (HLgZ.out.upd HUr.out (fun k h1 h2 h3 => by omega))
      have HC2 := hide_ (HC.out.upd HUr.out (fun k h1 h2 h3 => by omega))
      have HB2 := hide_ (HBl.out.upd HUr.out (fun k h1 h2 h3 => by omega))
      have HD2 := hide_ (HD.out.upd HUr.out (fun k h1 h2 h3 => by omega))
      have HX2 := hide_ (HX.out.upd HUr.out (fun k h1 h2 h3 => by omega))
      have HUU2 := hide_ (HU.out.upd HUr.out (fun k h1 h2 h3 => by omega))
      have hzq : w13.heap.size ≤ wq.heap.size := HUr.out.size
      have HBq := hide_ (HB13.out.trans (HUr.out.below w.heap.size HB13.out.size (fun k hk => by have := HB3.out.size; omega)))
      clear HLgZ HA HC HBl HD HX HU HB13
      generalize wq = w14 at *
      go_wp2_with fail
      go_loopw [25] (fun x25 wr => ∃ (i : Nat) (m2 : List Int), i ≤ ll.length ∧ x25 = .int .i64 (i : Int) ∧ Hid (m2.length = ll.length) ∧ Hid (Lot wr (.slice a6 ll.length c6) m2 w5.heap.size w6.heap.size) ∧ Hid (Upd (fun k => w5.heap.size ≤ k ∧ k < w6.heap.size) w14 wr)) (fun x25 _ => ll.length - (intOf x25).toNat)
      case atStart => exact ⟨0, ll, Nat.zero_le _, rfl, hide_ rfl, HB2, hide_ (Upd.refl _ _)⟩
      case round =>
        obtain ⟨i, m2, hi2, rfl, HM2, HBr, HUr2⟩ := hrel
        generalize wr = wp at *
        by_cases hlt2 : i < ll.length
        · have hlt2' : (i : Int) < ll.length := by omega
          have hml : 0 < m2.length := by have := HM2.out; omega
          obtain ⟨g6, cap6, ys6, e6, -⟩ := ownS_blk HBr.out.1 hml
          injection e6 with e61 _ e63
          subst e61 e63
          have him : i < m2.length := by have := HM2.out; omega
          obtain ⟨x0, xf⟩ := lot_at HBr.out.1 him
          generalize m2.getD i 0 = q at *
          have HS := hide_ (HBr.out.1.set him (-8))
          have hgl := (HBr.out.1.lies (k := g6) rfl).1
          have hgh := HBr.out.2 g6 rfl
          have HA2 : Hid (Lot (wp.setCell ⟨g6, i, none⟩ (.int .i64 (-8))) (.slice (some ⟨g6, 0, none⟩) ll.length c6) (m2.set i (-8)) w5.heap.size w6.heap.size) := hide_ ⟨HS.out, HBr.out.2⟩
          have HM3 : Hid ((m2.set i (-8)).length = ll.length) := hide_ (by rw [List.length_set]; exact HM2.out)
          have HU2 := hide_ (HUr2.out.set ⟨g6, i, none⟩ (.int .i64 (-8)) (.inl ⟨hgl, hgh⟩))
          clear hgl hgh him hml
          go_wp2_with fail
          go_roundw
          case rel => exact ⟨i + 1, _, by omega, by go_num, HM3, HA2, HU2⟩
          case measure => simp [intOf]; omega
        · obtain rfl : i = ll.length := by omega
          have HLg3 := hide_ (HLg2.out.upd HUr2.out (fun k h1 h2 h3 => by omega))
          have HC3 := hide_ (HC2.out.upd HUr2.out (fun k h1 h2 h3 => by omega))
          have HD3 := hide_ (HD2.out.upd HUr2.out (fun k h1 h2 h3 => by omega))
          have HX3 := hide_ (HX2.out.upd HUr2.out (fun k h1 h2 h3 => by omega))
          have HU3 := hide_ (HUU2.out.upd HUr2.out (fun k h1 h2 h3 => by omega))
          have HA3 := hide_ (HAr.out.upd HUr2.out (fun k h1 h2 h3 => by omega))
          have hzp : w14.heap.size ≤ wp.heap.size := HUr2.out.size
          have HBp := hide_ (HBq.out.trans (HUr2.out.below w.heap.size HBq.out.size (fun k hk => by have := HB3.out.size; omega)))
          clear HLg2 HC2 HD2 HX2 HUU2 HAr HB2
          have hz3 : w.heap.size ≤ w3.heap.size := HB3.out.size
          have hz13 : w1.heap.size ≤ w3.heap.size := HBl1.out.size
          obtain ⟨ga, ca, wa, hruna, hOa, hUa, hga⟩ := HA3.out.1.push (-9) (by have := HM.out; omega) (by omega)
          have hml4 := HM.out
          rw [hml4] at hruna hOa
          have HRa := hide_ hruna
          have HUa : Hid (Upd (fun k => w3.heap.size ≤ k ∧ k < w4.heap.size) wp wa) := hide_ (hUa.mono (fun k _ hk => ⟨(HA3.out.1.lies hk).1, HA3.out.2 k hk⟩))
          have hgaw : ga < w4.heap.size ∨ wp.heap.size ≤ ga := hga.imp (fun h => HA3.out.2 _ h) id
          have hga3 : w3.heap.size ≤ ga := (hOa.lies (k := ga) rfl).1
          have HLg4 := hide_ (HLg3.out.upd HUa.out (fun k h1 h2 h3 => by omega))
          have HC4 := hide_ (HC3.out.upd HUa.out (fun k h1 h2 h3 => by omega))
          have HD4 := hide_ (HD3.out.upd HUa.out (fun k h1 h2 h3 => by omega))
          have HX4 := hide_ (HX3.out.upd HUa.out (fun k h1 h2 h3 => by omega))
          have HU4 := hide_ (HU3.out.upd HUa.out (fun k h1 h2 h3 => by omega))
          have HB4 := hide_ (HBr.out.upd HUa.out (fun k h1 h2 h3 => by omega))
          have hza : wp.heap.size ≤ wa.heap.size := HUa.out.size
          have HBa := hide_ (HBp.out.trans (HUa.out.below w.heap.size HBp.out.size (fun k hk => by omega)))
          obtain ⟨gb, cb, wb, hrunb, hOb, hUb, hgb⟩ := HB4.out.1.push (-9) (by have := HM2.out; omega) (by omega)
          have hml6 := HM2.out
          rw [hml6] at hrunb hOb
          have HRb := hide_ hrunb
          have HUb : Hid (Upd (fun k => w5.heap.size ≤ k ∧ k < w6.heap.size) wa wb) := hide_ (hUb.mono (fun k _ hk => ⟨(HB4.out.1.lies hk).1, HB4.out.2 k hk⟩))
          have HLg5 := hide_ (HLg4.out.upd HUb.out (fun k h1 h2 h3 => by omega))
          have HC5 := hide_ (HC4.out.upd HUb.out (fun k h1 h2 h3 => by omega))
          have HD5 := hide_ (HD4.out.upd HUb.out (fun k h1 h2 h3 => by omega))
          have HX5 := hide_ (HX4.out.upd HUb.out (fun k h1 h2 h3 => by omega))
          have HU5 := hide_ (HU4.out.upd HUb.out (fun k h1 h2 h3 => by omega))
          have HA5 : Hid (IOwn wb w3.heap.size (.slice (some ⟨ga, 0, none⟩) (ol.length + 1) ca) (m ++ [-9])) := hide_ (hOa.upd HUb.out (fun k hk e => by have := own_is hk; omega))
          have HB5 : Hid (IOwn wb w5.heap.size (.slice (some ⟨gb, 0, none⟩) (ll.length + 1) cb) (m2 ++ [-9])) := hide_ hOb
          have hzb : wa.heap.size ≤ wb.heap.size := HUb.out.size
          have HBb := hide_ (HBa.out.trans (HUb.out.below w.heap.size HBa.out.size (fun k hk => by omega)))
          have HML4 := hide_ hml4
          have HML6 := hide_ hml6
          clear HLg3 HLg4 HC3 HC4 HD3 HD4 HX3 HX4 HU3 HU4 HA3 HB4 HBr hruna hrunb hOa hOb hUa hUb hga hgb hml4 hml6 HUr HUr2
          go_upto_region 23 with (first | (at_builtin; refine wpList_append_run rfl (.tmp 149) (.tmp 150) 22 22 rfl rfl rfl HRa.out ?_) | (at_builtin; refine wpList_append_run rfl (.tmp 152) (.tmp 153) 22 22 rfl rfl rfl HRb.out ?_) | fail)
          clear HRa HRb
          go_wp2_with fail
          refine (HSm.out wb _ _ _ _ ol (by omega) (by obtain ⟨a9, c9, e9, h9⟩ := HC5.out.row; injection e9 with e9 _ _; rw [e9]; exact h9) (by obtain ⟨a9, c9, e9, h9⟩ := HX5.out.row; injection e9 with e9 _ _; rw [e9]; exact h9)).mono ?_
          rintro e w20 ⟨rfl, hB⟩
          have HLg5 := hide_ (HLg5.out.later hB)
          have HD5 := hide_ (HD5.out.later hB)
          have HU5 := hide_ (HU5.out.later hB)
          have HA5 := hide_ (HA5.out.later hB)
          have HB5 := hide_ (HB5.out.later hB)
          have HB20 := hide_ (below_to HBb.out hB)
          clear hB HC5 HX5
          go_wp2_with fail
          refine (HSm.out w20 _ _ _ _ ll (by omega) (by obtain ⟨a9, c9, e9, h9⟩ := HD5.out.row; injection e9 with e9 _ _; rw [e9]; exact h9) (by obtain ⟨a9, c9, e9, h9⟩ := HU5.out.row; injection e9 with e9 _ _; rw [e9]; exact h9)).mono ?_
          rintro e w21 ⟨rfl, hB⟩
          have HLg5 := hide_ (HLg5.out.later hB)
          have HA5 := hide_ (HA5.out.later hB)
          have HB5 := hide_ (HB5.out.later hB)
          have HB21 := hide_ (below_to HB20.out hB)
          clear hB HD5 HU5
          go_wp2_with fail
          refine (HSm.out w21 _ _ _ _ l (by omega) (Hin.out _ HLg5.out) (hr.out.later HB21.out)).mono ?_
          rintro e w22 ⟨rfl, hB⟩
          have HLg5 := hide_ (HLg5.out.later hB)
          have HA5 := hide_ (HA5.out.later hB)
          have HB5 := hide_ (HB5.out.later hB)
          have HBf := hide_ (below_to HB21.out hB)
          have q1 := (lot_at (i := l.length) HLg5.out.1 (by simp)).1
          rw [getD_last] at q1
          have q2 := (lot_at (i := ol.length) HA5.out (by rw [List.length_append, HML4.out]; simp)).1
          have q3 := (lot_at (i := ll.length) HB5.out (by rw [List.length_append, HML6.out]; simp)).1
          rw [← HML4.out, getD_last, HML4.out] at q2
          rw [← HML6.out, getD_last, HML6.out] at q3
          have e1 := w64 ((ol.length : Int) + 1 - 1) (by omega)
          have e2 := w64 ((ll.length : Int) + 1 - 1) (by omega)
          have lt0 : (l.length : Int) < l.length + 1 := by omega
          have lt1 : (ol.length : Int) < ol.length + 1 := by omega
          have lt2 : (ll.length : Int) < ll.length + 1 := by omega
          clear hB HLg5 HA5 HB5 HSm Hin
          go_wp2
          go_ret
          exact ⟨rfl, HBf.out⟩
end Go.Proofs.Ytnpkpmbpapekbaa
