/- TokensApart. -/
import Derived.Test.YtoodafhljgdghaaX
import Derived.Deep.RegionLaw
namespace Go.Proofs.Ytoodafhljgdghaa
open Go.RowKit
set_option linter.unusedVariables false

/-- A slice of strings. -/
def SRow (w : World) (a : Option Addr) (l : List ByteArray) : Prop :=
  (a = none ∧ l = []) ∨ ∃ x, a = some x ∧ ∀ i, i < l.length → w.cell? (x.add i) = some (.string (l.getD i ⟨#[]⟩))
theorem SRow.open {w : World} {a : Option Addr} {l : List ByteArray} (h : SRow w a l) (hl : 0 < l.length) :
    ∃ b off, a = some ⟨b, off, none⟩ ∧ b < w.heap.size ∧ ∀ i, i < l.length → w.cell? ⟨b, off + i, none⟩ = some (.string (l.getD i ⟨#[]⟩)) := by
  rcases h with ⟨rfl, rfl⟩ | ⟨x, rfl, hc⟩
  · simp at hl
  · obtain ⟨b, off, spot⟩ := x
    have hc0 := hc 0 hl
    have hspot : spot = none := by simpa [Addr.add] using World.cell?_spot hc0
    subst hspot
    exact ⟨b, off, rfl, World.block_lt_of_cell? w _ hc0, fun i hi => (add_none b off i) ▸ hc i hi⟩
theorem RowE.form {B N : Nat} {w : World} {v : Value} {F : Nat → Value} {e : TypeId} (h : RowE e B w v N F) : ∃ a cap, v = .slice a N cap := by
  rcases h.2 with ⟨rfl, h0⟩ | ⟨g, cap, cur, rfl, _⟩
  · exact ⟨none, 0, by rw [h0]⟩
  · exact ⟨_, cap, rfl⟩
theorem own_form {B n c : Nat} {w : World} {v : Value} {e : TypeId} {xs : List Value} (h : w.ownsRow B e c v n xs) : ∃ a cap, v = .slice a n cap := by
  rcases h.2 with ⟨rfl, h0⟩ | ⟨g, cap, cur, rfl, _⟩
  · exact ⟨none, 0, by rw [h0]⟩
  · exact ⟨_, cap, rfl⟩
theorem ex3s : ∃ ys, cutT ⟨#[116, 121, 112, 101, 32, 97, 32, 61, 32, 117, 56, 59]⟩ = (ys, 0, 0) ∧ ys.length = 5 := by
  obtain ⟨h1, h2⟩ := ex3
  refine ⟨(cutT ⟨#[116, 121, 112, 101, 32, 97, 32, 61, 32, 117, 56, 59]⟩).1, ?_, h2⟩
  have h3 : (cutT ⟨#[116, 121, 112, 101, 32, 97, 32, 61, 32, 117, 56, 59]⟩).2.1 = 0 := by rw [h1]
  have h4 : (cutT ⟨#[116, 121, 112, 101, 32, 97, 32, 61, 32, 117, 56, 59]⟩).2.2 = 0 := by rw [h1]
  rw [← h3]
  conv => rhs; rw [h3]
  rw [← h4]
  conv => rhs; rw [h4]
  rw [show ((cutT ⟨#[116, 121, 112, 101, 32, 97, 32, 61, 32, 117, 56, 59]⟩).1, (0 : Nat), (0 : Nat)) = ((cutT ⟨#[116, 121, 112, 101, 32, 97, 32, 61, 32, 117, 56, 59]⟩).1, (cutT ⟨#[116, 121, 112, 101, 32, 97, 32, 61, 32, 117, 56, 59]⟩).2.1, (cutT ⟨#[116, 121, 112, 101, 32, 97, 32, 61, 32, 117, 56, 59]⟩).2.2) by rw [h3, h4]]
set_option maxRecDepth 100000 in
set_option maxHeartbeats 8000000 in
theorem apart_any (aT : Option Addr) (n c : Nat) (l : List ByteArray) (w : World) (hl : l.length = n) (hn : n ≤ 9223372036854775807) (hr : Hid (SRow w aT l)) : Calls Try.prog 4 #[.slice aT n c] w fun e w' => e = .returned (.bool true) ∧ Below w.heap.size w w' := by
  go_enter Try.func4, Try.ntmps4
  go_wp2_with fail
  refine (first_any w).mono ?_; rintro e w1 ⟨rfl, hB1⟩
  have HB1 := hide_ hB1
  have HG0 : Hid (∃ (F H : Nat → Value) (L : Nat → List Tk), Gs w.heap.size w1 (.slice none 0 0) (.slice none 0 0) 0 0 0 0 F H L) := ⟨fun _ => .slice none 0 0, fun _ => .slice none 0 0, fun _ => [], Gs.nil w1 hB1.size⟩
  clear hB1
  go_wp2_with fail
  go_loopw [3, 4, 5] (fun x3 x4 x5 wr => ∃ (vG vW : Value) (i : Nat), vG = x3 ∧ vW = x4 ∧ x5 = .int .i64 i ∧ i ≤ n ∧ i ≤ 20 ∧ Hid (∃ (F H : Nat → Value) (L : Nat → List Tk), Gs w.heap.size wr vG vW (4 * i) (4 * i) (4 * i) (4 * i) F H L) ∧ Hid (Below w.heap.size w wr)) (fun _ _ i _ => 20 - (intOf i).toNat)
  case atStart => exact ⟨_, _, 0, rfl, rfl, rfl, Nat.zero_le _, Nat.zero_le _, HG0, HB1⟩
  case round =>
    clear HB1 HG0
    obtain ⟨vG, vW, i, rfl, rfl, rfl, hi, hi2, HG, HB⟩ := hrel
    generalize wr = wq at *
    by_cases hlt : i < n ∧ i < 20
    · have hlt1 : (i : Int) < n := by omega
      have hlt2 : (i : Int) < 20 := by omega
      obtain ⟨bT, oT, haT, hbT, hcT⟩ := hr.out.open (by omega)
      subst haT
      have HcT : Hid (w.cell? ⟨bT, oT + i, none⟩ = some (.string (l.getD i ⟨#[]⟩))) := hcT i (by omega)
      clear hcT
      generalize l.getD i ⟨#[]⟩ = s at *
      have hfew := cut_few s
      obtain ⟨⟨ts, E, A⟩, hR⟩ : ∃ R, cutT s = R := ⟨_, rfl⟩
      rw [hR] at hfew
      have hfew : ts.length ≤ 65536 := hfew
      have HR := hide_ hR
      clear hR
      go_wp2_with fail
      go_loopw [3, 4, 6] (fun x3 x4 x6 wr => ∃ (vG vW : Value) (k : Nat), vG = x3 ∧ vW = x4 ∧ x6 = .int .i64 k ∧ k ≤ 2 ∧ Hid (∃ (F H : Nat → Value) (L : Nat → List Tk), Gs w.heap.size wr vG vW (4 * i + 2 * k) (4 * i + 2 * k) (4 * i + 2 * k) (4 * i + 2 * k) F H L) ∧ Hid (Below w.heap.size w wr)) (fun _ _ k _ => 2 - (intOf k).toNat)
      case atStart => exact ⟨_, _, 0, rfl, rfl, rfl, Nat.zero_le _, HG, HB⟩
      case round =>
        clear HG HB
        obtain ⟨vG, vW, k, rfl, rfl, rfl, hk, HG, HB⟩ := hrel
        generalize wr = wq at *
        by_cases hk2 : k < 2
        · have hk2' : (k : Int) < 2 := by omega
          have dT := (HB.out.cell (p := ⟨bT, oT + i, none⟩) hbT).trans HcT.out
          go_wp2_with fail
          refine (cut_is HR.out wq).mono ?_; rintro e w2 ⟨a1, c1, rfl, hc1, -, HO1, HB2⟩
          obtain ⟨F, H, L, G0⟩ := HG.out
          obtain ⟨N, hNe⟩ : ∃ N, 4 * i + 2 * k = N := ⟨_, rfl⟩
          rw [hNe] at G0
          have hN1 : N ≤ 100 := by omega
          have G1 := G0.moreG HB2.out (Nat.le_refl _) (Nat.le_refl _) HO1.out hfew
          have G2 := G1.later ((Below.refl _ w2).alloc (Nat.le_refl _) (.cells #[.int .i64 E, .int .i64 A] 26))
          have HG2 := hide_ G2
          have HB3 := hide_ ((HB.out.trans (HB2.out.mono HB.out.size)).alloc (Nat.le_trans HB.out.size HB2.out.size) (.cells #[.int .i64 E, .int .i64 A] 26))
          clear G0 G1 G2 HG HO1 HB HB2 dT
          obtain ⟨ys, hy, hy5⟩ := ex3s
          have HY := hide_ hy
          clear hy
          go_upto_region 11 with fail
          generalize hw3 : w2.alloc (.cells #[.int .i64 E, .int .i64 A] 26) = w3 at *
          clear hw3
          go_wp2_with fail
          refine (cut_is HY.out w3).mono ?_; rintro e w4 ⟨a2, c2, rfl, hc2, -, HO2, HB4⟩
          have HG4 := hide_ (HG2.out.moreG HB4.out (by omega) (by omega) HO2.out (by omega))
          have HG5 := hide_ (HG4.out.later ((Below.refl _ w4).alloc (Nat.le_refl _) (.cells #[.int .i64 0, .int .i64 0] 26)))
          have HB5 := hide_ ((HB3.out.trans (HB4.out.mono HB3.out.size)).alloc (Nat.le_trans HB3.out.size HB4.out.size) (.cells #[.int .i64 0, .int .i64 0] 26))
          have HK5 := hide_ (Blk.newA w4 #[.int .i64 0, .int .i64 0] 26)
          clear HG2 HB3 HO2 HB4 HG4 HY
          go_upto_region 13 with fail
          generalize hw5 : w4.alloc (.cells #[.int .i64 0, .int .i64 0] 26) = w5 at *
          clear hw5
          obtain ⟨X, hX⟩ : ∃ X : Nat → Value, ext (ext F N (.slice a1 ts.length c1)) (N + 1) (.slice a2 ys.length c2) = X := ⟨_, rfl⟩
          obtain ⟨L2, hL2⟩ : ∃ L2 : Nat → List Tk, ext (ext L N ts) (N + 1) ys = L2 := ⟨_, rfl⟩
          rw [hX, hL2] at HG5
          have hX1 : X N = .slice a1 ts.length c1 := by rw [← hX, ext_ne _ _ _ _ (by omega), ext_at]
          have hX2 : X (N + 1) = .slice a2 ys.length c2 := by rw [← hX, ext_at]
          have hL21 : L2 N = ts := by rw [← hL2, ext_ne _ _ _ _ (by omega), ext_at]
          have hL22 : L2 (N + 1) = ys := by rw [← hL2, ext_at]
          clear hX hL2
          obtain ⟨gG, cG, w6, r6, G6, B6, K6⟩ := HG5.out.pushG (by omega) (by omega)
          rw [hX1, hX2, hy5] at r6
          have R6 := hide_ r6
          have HB6 := hide_ (HB5.out.trans B6)
          have HK6 := hide_ (K6 _ _ _ (by decide) HK5.out)
          have o1 := G6.oG N (by omega)
          rw [hX1, hL21] at o1
          obtain ⟨v7, w7, r7, o7, B7⟩ := run_copyT w6 _ _ ts o1 (by omega)
          obtain ⟨a7, c7, hv7⟩ := own_form o7
          subst hv7
          have R7 := hide_ r7
          have G7 := G6.moreW B7 (Nat.le_refl _) (x := .slice a7 ts.length c7) (by rw [hL21]; exact o7)
          have o2 := G7.oG (N + 1) (by omega)
          rw [hX2, hL22] at o2
          obtain ⟨v8, w8, r8, o8, B8⟩ := run_copyT w7 _ _ ys o2 (by omega)
          obtain ⟨a8, c8, hv8⟩ := own_form o8
          subst hv8
          rw [hy5] at r8
          have R8 := hide_ r8
          have G8 := G7.moreW B8 (by omega) (x := .slice a8 ys.length c8) (by rw [hL22]; exact o8)
          obtain ⟨gW, cW, w9, r9, G9, B9, K9⟩ := G8.pushW (by omega) (by omega)
          rw [ext_ne _ _ _ _ (by omega), ext_at, ext_at, hy5] at r9
          have R9 := hide_ r9
          have HB9 := hide_ (((HB6.out.trans (B7.mono HB6.out.size)).trans (B8.mono (Nat.le_trans HB6.out.size B7.size))).trans B9)
          have HK9 := hide_ (K9 _ _ _ (by decide) ((HK6.out.later B7).later B8))
          have HG9 := hide_ (show ∃ (F H : Nat → Value) (L : Nat → List Tk), Gs w.heap.size w9 (.slice (some ⟨gG, 0, none⟩) (N + 2) cG) (.slice (some ⟨gW, 0, none⟩) (N + 2) cW) (4 * i + 2 * (k + 1)) (4 * i + 2 * (k + 1)) (4 * i + 2 * (k + 1)) (4 * i + 2 * (k + 1)) F H L from ⟨_, _, _, by rw [show 4 * i + 2 * (k + 1) = N + 2 by omega]; exact G9⟩)
          have e0 := HK9.out.cell 0; have e1 := HK9.out.cell 1
          simp at e0 e1
          have HNe := hide_ hNe
          clear r6 G6 B6 K6 r7 o7 B7 G7 r8 o8 B8 G8 r9 G9 B9 K9 o1 o2 hX1 hX2 hL21 hL22 HG5 HB5 HK5 HB6 HK6 HK9 hNe
          go_wp2_with (first
            | (at_builtin; have _t := R6; refine wpList_append_run rfl (.tmp 49) (.tmp 52) 32 32 rfl rfl rfl R6.out ?_; clear R6)
            | (at_builtin; have _t := R7; refine wpList_append_run rfl (.tmp 55) (.tmp 56) 23 23 rfl rfl rfl R7.out ?_; clear R7)
            | (at_builtin; have _t := R8; refine wpList_append_run rfl (.tmp 58) (.tmp 59) 23 23 rfl rfl rfl R8.out ?_; clear R8)
            | (at_builtin; have _t := R9; refine wpList_append_run rfl (.tmp 54) (.tmp 61) 32 32 rfl rfl rfl R9.out ?_; clear R9))
          go_roundw
          case rel => exact ⟨_, _, k + 1, rfl, rfl, by go_num, by omega, HG9, HB9⟩
          case measure => simp [intOf]; omega
        · obtain rfl : k = 2 := by omega
          go_wp2
          go_roundw
          case rel => exact ⟨vG, vW, i + 1, rfl, rfl, by go_num, by omega, by omega, HG, HB⟩
          case measure => simp [intOf]; omega
    · have HN : Hid (∃ (N : Nat) (F H : Nat → Value) (L : Nat → List Tk), N ≤ 80 ∧ Gs w.heap.size wq vG vW N N N N F H L) := by
        obtain ⟨F, H, L, g⟩ := HG.out
        exact ⟨4 * i, F, H, L, by omega, g⟩
      clear HG
      obtain ⟨N, F, H, L, hN, G⟩ := HN.out
      obtain ⟨aG, cG, rfl⟩ := G.rG.form
      obtain ⟨aW, cW, rfl⟩ := G.rW.form
      have HG := hide_ G
      clear G HN
      have fin : Hid (Below w.heap.size w wq) := HB
      clear HB
      have hnlt : ¬ ((i : Int) < n ∧ (i : Int) < 20) := by omega
      have hN' : (N : Int) ≤ 80 := by omega
      have key : ∀ K : Prop, ((i : Int) < n → ¬ (i : Int) < 20 → K) → (¬ (i : Int) < n → True → K) → K := fun K k1 k2 => by
        by_cases h : (i : Int) < n
        · exact k1 h (fun h2 => hnlt ⟨h, h2⟩)
        · exact k2 h trivial
      refine key _ ?_ ?_ <;> clear key hnlt hlt
      all_goals
        intro hq1 hq2
        go_wp2_with fail
        go_loopw [13] (fun x wr => ∃ k : Nat, x = .int .i64 k ∧ k ≤ N ∧ Hid (Below wq.heap.size wq wr)) (fun x _ => N - (intOf x).toNat)
        case atStart => exact ⟨0, rfl, Nat.zero_le _, Below.refl _ _⟩
        case round =>
          obtain ⟨k, rfl, hk, HB⟩ := hrel
          generalize wr = wa at *
          by_cases hkN : k < N
          · have hkN' : (k : Int) < N := by omega
            have Ga := HG.out.later HB.out
            obtain ⟨qG, cG', eG, hqG, hnG, hmG, hcG⟩ := Ga.rG.open (by omega)
            obtain ⟨qW, cW', eW, hqW, hnW, hmW, hcW⟩ := Ga.rW.open (by omega)
            injection eG with eG1 _ eG3
            injection eW with eW1 _ eW3
            subst eG1 eW1 eG3 eW3
            obtain ⟨af, cf, hFk, -, hTf, -⟩ := own_row (Ga.oG k hkN)
            obtain ⟨ah, ch, hHk, -, hTh, -⟩ := own_row (Ga.oW k hkN)
            have d1 := hcG k hkN
            have d2 := hcW k hkN
            rw [hFk] at d1
            rw [hHk] at d2
            have hfw := Ga.few k hkN
            have HS : Hid (∀ w', Below wa.heap.size wa w' → Calls Try.prog 11 #[.slice af (L k).length cf, .slice ah (L k).length ch] w' fun e w'' => e = .returned (.bool true) ∧ Below w'.heap.size w' w'') := fun w' hB => same_any af ah (L k).length cf ch (L k) w' rfl (by omega) (hTf.later hB) (hTh.later hB)
            have bG := World.block_lt_of_cell? wa _ d1
            have bW := World.block_lt_of_cell? wa _ d2
            have HSS : Hid (∀ w', Below wa.heap.size wa w' → Below wa.heap.size wa w' ∧ w'.cell? ⟨qG, k, none⟩ = some (.slice af (L k).length cf) ∧ w'.cell? ⟨qW, k, none⟩ = some (.slice ah (L k).length ch)) := fun w' hB => ⟨hB, (hB.cell (p := ⟨qG, k, none⟩) bG).trans d1, (hB.cell (p := ⟨qW, k, none⟩) bW).trans d2⟩
            clear Ga hcG hcW hFk hHk hTf hTh bG bW
            go_wp2_with fail
            go_region_held_law (fun w' => Below wa.heap.size wa w' ∧ w'.cell? ⟨qG, k, none⟩ = some (.slice af (L k).length cf) ∧ w'.cell? ⟨qW, k, none⟩ = some (.slice ah (L k).length ch)) (first | assumption | exact HSS.out _ ((Below.refl _ _).drew))
              (first
                | (go_at_call 11; refine (HS.out _ (by first | assumption | exact And.left (by assumption))).mono ?_; rintro e wz ⟨rfl, hBz⟩; have Gz := HSS.out wz (below_to (by first | assumption | exact And.left (by assumption)) hBz); clear hBz))
            obtain ⟨Bz, -, -⟩ := Gz
            have HBz := hide_ (below_to HB.out Bz)
            clear Bz HS HSS d1 d2
            go_wp2
            go_roundw
            case rel => exact ⟨k + 1, by go_num, by omega, HBz⟩
            case measure => simp [intOf]; omega
          · obtain rfl : k = N := by omega
            have HM : Hid (∃ C, (∀ j, (C j).length = (L j).length) ∧ Gm w.heap.size wa (.slice aG k cG) k F C) := ⟨L, fun _ => rfl, (HG.out.later HB.out).gm⟩
            have HBa := hide_ (fin.out.trans (HB.out.mono fin.out.size))
            clear HG fin HB
            generalize k = N at *
            obtain ⟨nn, hnn⟩ : ∃ nn : Nat → Nat, (fun j => (L j).length) = nn := ⟨_, rfl⟩
            have HM2 : Hid (∃ C, (∀ j, (C j).length = nn j) ∧ (∀ j, j < 0 → C j = mks j (nn j)) ∧ Gm w.heap.size wa (.slice aG N cG) N F C) := by
              obtain ⟨C, c1, c2⟩ := HM.out
              exact ⟨C, fun j => by rw [c1, ← hnn], fun j hj => by omega, c2⟩
            clear HM hnn
            go_wp2_with fail
            go_loopw [14] (fun x wr => ∃ k : Nat, x = .int .i64 k ∧ k ≤ N ∧ Hid (∃ C, (∀ j, (C j).length = nn j) ∧ (∀ j, j < k → C j = mks j (nn j)) ∧ Gm w.heap.size wr (.slice aG N cG) N F C) ∧ Hid (Below w.heap.size w wr)) (fun x _ => N - (intOf x).toNat)
            case atStart => exact ⟨0, rfl, Nat.zero_le _, HM2, HBa⟩
            case round =>
              clear HM2 HBa
              obtain ⟨k, rfl, hk, HM, HB⟩ := hrel
              generalize wr = wa at *
              by_cases hkN : k < N
              · have hkN' : (k : Int) < N := by omega
                have HM3 : Hid (∃ C, (∀ j, (C j).length = nn j) ∧ (∀ j, j < k → C j = mks j (nn j)) ∧ (C k).take 0 = mks k 0 ∧ Gm w.heap.size wa (.slice aG N cG) N F C) := by
                  obtain ⟨C, c1, c2, c3⟩ := HM.out
                  exact ⟨C, c1, c2, by simp [mks], c3⟩
                clear HM
                go_wp2_with fail
                go_loopw [15] (fun x wr => ∃ j : Nat, x = .int .i64 j ∧ j ≤ nn k ∧ Hid (∃ C, (∀ j, (C j).length = nn j) ∧ (∀ j, j < k → C j = mks j (nn j)) ∧ (C k).take j = mks k j ∧ Gm w.heap.size wr (.slice aG N cG) N F C) ∧ Hid (Below w.heap.size w wr)) (fun x _ => nn k - (intOf x).toNat)
                case atStart => exact ⟨0, rfl, Nat.zero_le _, HM3, HB⟩
                case round =>
                  clear HM3 HB
                  obtain ⟨j, rfl, hj, HM, HB⟩ := hrel
                  generalize wr = wb at *
                  obtain ⟨C, c1, c2, c3, G⟩ := HM.out
                  obtain ⟨qG, cG', eG, hqG, hnG, hmG, hcG⟩ := G.rG.open (by omega)
                  injection eG with eG1 _ eG3
                  subst eG1 eG3
                  have d1 := hcG k hkN
                  have hok := G.o k hkN
                  have hfw := G.few k hkN
                  rw [c1] at hok hfw
                  by_cases hjn : j < nn k
                  · have hjn' : (j : Int) < nn k := by omega
                    obtain ⟨gk, ck, yk, hFk, hbk, hnk, hmk, hlk, htk, hKk⟩ := ownS_blk hok (by omega)
                    rw [hFk] at d1
                    have G2 := G.mark (k := j) hkN hFk (by rw [c1]; exact hjn) (mkT k j)
                    have HM4 : Hid (∃ C, (∀ j, (C j).length = nn j) ∧ (∀ j, j < k → C j = mks j (nn j)) ∧ (C k).take (j + 1) = mks k (j + 1) ∧ Gm w.heap.size (put5 wb gk (j * 5) (mkT k j)) (.slice (some ⟨qG, 0, none⟩) N cG) N F C) := by
                      refine ⟨_, fun q => ?_, fun q hq => ?_, ?_, G2⟩
                      · by_cases hqk : q = k
                        · subst hqk; rw [ext_at, List.length_set, c1]
                        · rw [ext_ne _ _ _ _ hqk, c1]
                      · rw [ext_ne _ _ _ _ (by omega), c2 q hq]
                      · have hlen : j < (C k).length := by rw [c1]; exact hjn
                        rw [ext_at, mks_succ, ← c3, List.take_add_one, List.take_set, List.set_eq_of_length_le (by simp; omega)]
                        simp [hlen]
                    have HB4 : Hid (Below w.heap.size w (put5 wb gk (j * 5) (mkT k j))) := HB.out.trans ((put5_upd wb gk (j * 5) (mkT k j)).below _ G.hB (fun q hq => by rw [hq]; exact hbk))
                    have fr : ∀ q, wb.frozen? ⟨gk, j * 5 + q, none⟩ = false := fun q => hKk.frozen _
                    have hyl : ∀ q, q < 5 → ∃ u, wb.cell? ⟨gk, j * 5 + q, none⟩ = some u := fun q hq => by
                      rw [hKk.cell]
                      have : j * 5 + q < yk.length := by rw [hlk]; omega
                      exact ⟨_, List.getElem?_eq_getElem this⟩
                    obtain ⟨u0, m0⟩ := hyl 0 (by decide)
                    obtain ⟨u1, m1⟩ := hyl 1 (by decide)
                    obtain ⟨u2, m2⟩ := hyl 2 (by decide)
                    obtain ⟨u3, m3⟩ := hyl 3 (by decide)
                    obtain ⟨u4, m4⟩ := hyl 4 (by decide)
                    have f0 := fr 0; have f1 := fr 1; have f2 := fr 2; have f3 := fr 3; have f4 := fr 4
                    simp only [Nat.add_zero] at f0 m0
                    have hck : (nn k : Int) ≤ ck := by omega
                    have hneg : IntKind.i64.wrap (-1 - (k : Int)) = -1 - k := i64w _ (by omega)
                    clear G2 G hok hbk htk hKk fr hyl hcG c1 c2 c3 hFk HM HB
                    go_wp2
                    go_roundw
                    case rel => exact ⟨j + 1, by go_num, by omega, HM4, HB4⟩
                    case measure => simp [intOf]; omega
                  · obtain rfl : j = nn k := by omega
                    obtain ⟨af, cf, hFk⟩ := own_form hok
                    rw [hFk] at d1
                    have HM5 : Hid (∃ C, (∀ j, (C j).length = nn j) ∧ (∀ j, j < k + 1 → C j = mks j (nn j)) ∧ Gm w.heap.size wb (.slice (some ⟨qG, 0, none⟩) N cG) N F C) := by
                      refine ⟨C, c1, fun q hq => ?_, G⟩
                      by_cases hqk : q = k
                      · subst hqk
                        rw [← c3, List.take_of_length_le (by rw [c1]; exact Nat.le_refl _)]
                      · exact c2 q (by omega)
                    clear G hok hcG c1 c2 c3 hFk HM
                    go_wp2
                    go_roundw
                    case rel => exact ⟨k + 1, by go_num, by omega, HM5, HB⟩
                    case measure => simp [intOf]; omega
              · obtain rfl : k = N := by omega
                have HX : Hid (∃ M, Gx w.heap.size wa (.slice aG k cG) (.slice none 0 0) k 0 F M nn) := by
                  obtain ⟨C, c1, c2, G⟩ := HM.out
                  exact ⟨F, Gx.begin (G.congr (fun j hj => c2 j hj))⟩
                clear HM
                generalize k = N at *
                go_wp2_with fail
                go_loopw [16, 17] (fun x16 x17 wr => ∃ (vM : Value) (k : Nat), vM = x16 ∧ x17 = .int .i64 k ∧ k ≤ N ∧ Hid (∃ M, Gx w.heap.size wr (.slice aG N cG) vM N k F M nn) ∧ Hid (Below w.heap.size w wr)) (fun _ x _ => N - (intOf x).toNat)
                case atStart => exact ⟨_, 0, rfl, rfl, Nat.zero_le _, HX, HB⟩
                case round =>
                  clear HX HB
                  obtain ⟨vM, k, rfl, rfl, hk, HX, HB⟩ := hrel
                  generalize wr = wb at *
                  obtain ⟨M, G⟩ := HX.out
                  by_cases hkN : k < N
                  · have hkN' : (k : Int) < N := by omega
                    obtain ⟨qG, cG', eG, hqG, hnG, hmG, hcG⟩ := G.g.rG.open (by omega)
                    injection eG with eG1 _ eG3
                    subst eG1 eG3
                    have d1 := hcG k hkN
                    have hok := G.g.o k hkN
                    have hfw := G.g.few k hkN
                    simp only [mks_len] at hok hfw
                    obtain ⟨af, cf, hFk⟩ := own_form hok
                    have Gd : Gx w.heap.size wb.drew (.slice (some ⟨qG, 0, none⟩) N cG) vM N k F M nn := G.later (Below.refl _ _).drew
                    obtain ⟨g1, c1, w1, r1, g2, c2, w2, r2, G2, B2⟩ := Gd.step hkN (by omega)
                    rw [hFk] at r1 d1
                    have R1 : Hid ((Builtin.append_ #[23, 23] 23 #[.slice af (nn k) cf, .slice (some ⟨wb.heap.size, 0, none⟩) 1 1]).run Try.prog (wb.alloc (.cells #[.int .i64 (-1 - (k : Int)), .string ⟨#[]⟩, .int .i64 (nn k : Int), .int .i64 0, .int .i64 0] 34)).drew = .ok (.slice (some ⟨g1, 0, none⟩) (nn k + 1) c1) w1) := r1
                    have R2 := hide_ r2
                    have HX2 : Hid (∃ M, Gx w.heap.size w2 (.slice (some ⟨qG, 0, none⟩) N cG) (.slice (some ⟨g2, 0, none⟩) (k + 1) c2) N (k + 1) F M nn) := ⟨_, G2⟩
                    have HB2 := hide_ (HB.out.drew.trans B2)
                    have hneg : IntKind.i64.wrap (-1 - (k : Int)) = -1 - k := i64w _ (by omega)
                    have d1a : ∀ ob, (wb.alloc ob).cell? ⟨qG, k, none⟩ = some (.slice af (nn k) cf) := fun ob => (((Below.refl wb.heap.size wb).alloc (Nat.le_refl _) ob).cell (p := ⟨qG, k, none⟩) (World.block_lt_of_cell? wb _ d1)).trans d1
                    clear r1 r2 G2 B2 G Gd hok hcG HX HB hFk
                    go_wp2_with fail
                    go_region_law (first | (refine step_append_run rfl (.tmp 122) (.tmp 131) 23 23 rfl rfl rfl R1.out ?_) | (refine step_append_run rfl (.tmp 118) (.tmp 133) 32 32 rfl rfl rfl R2.out ?_))
                    all_goals
                      clear R1 R2 d1 d1a
                      go_wp2
                      go_roundw
                      case rel => exact ⟨_, k + 1, rfl, by go_num, by omega, HX2, HB2⟩
                      case measure => simp [intOf]; omega
                  · obtain rfl : k = N := by omega
                    obtain ⟨aM, cM, rfl⟩ := G.rM.form
                    have HX3 := hide_ G
                    clear HX G
                    generalize k = N at *
                    go_wp2_with fail
                    go_loopw [18] (fun x wr => ∃ k : Nat, x = .int .i64 k ∧ k ≤ N ∧ Hid (Gx w.heap.size wr (.slice aG N cG) (.slice aM N cM) N N F M nn) ∧ Hid (Below w.heap.size w wr)) (fun x _ => N - (intOf x).toNat)
                    case atStart => exact ⟨0, rfl, Nat.zero_le _, HX3, HB⟩
                    case round =>
                      clear HX3 HB
                      obtain ⟨k, rfl, hk, HX, HB⟩ := hrel
                      generalize wr = wb at *
                      by_cases hkN : k < N
                      · have hkN' : (k : Int) < N := by omega
                        go_wp2_with fail
                        go_loopw [19] (fun x wr => ∃ j : Nat, x = .int .i64 j ∧ j ≤ nn k + 1 ∧ Hid (Gx w.heap.size wr (.slice aG N cG) (.slice aM N cM) N N F M nn) ∧ Hid (Below w.heap.size w wr)) (fun x _ => nn k + 1 - (intOf x).toNat)
                        case atStart => exact ⟨0, rfl, Nat.zero_le _, HX, HB⟩
                        case round =>
                          clear HX HB
                          obtain ⟨j, rfl, hj, HX, HB⟩ := hrel
                          generalize wr = wc at *
                          have G := HX.out
                          obtain ⟨qG, cG', eG, -, -, -, hcG⟩ := G.g.rG.open (by omega)
                          obtain ⟨qM, cM', eM, -, -, -, hcM⟩ := G.rM.open (by omega)
                          injection eG with eG1 _ eG3
                          injection eM with eM1 _ eM3
                          subst eG1 eM1 eG3 eM3
                          have d1 := hcG k hkN
                          have d2 := hcM k hkN
                          have ho := G.g.o k hkN
                          have hfw := G.g.few k hkN
                          have hom := G.oM k hkN
                          simp only [mks_len] at ho hfw
                          obtain ⟨af, cf, hFk⟩ := own_form ho
                          obtain ⟨gm, cm, ym, hMk, -, hnm, -, hlm, htm, hKm⟩ := ownS_blk hom (by omega)
                          rw [hFk] at d1
                          rw [hMk] at d2
                          by_cases hjn : j < nn k + 1
                          · have hjn' : (j : Int) < ((nn k + 1 : Nat) : Int) := by omega
                            obtain ⟨wd, hwd⟩ : ∃ wd, wd = wc.alloc (.cells #[.int .i64 (-1 - (k : Int)), .string ⟨#[]⟩, .int .i64 (j : Int), .int .i64 0, .int .i64 0] 34) := ⟨_, rfl⟩
                            have HBd : Below wc.heap.size wc wd := by rw [hwd]; exact (Below.refl _ _).alloc (Nat.le_refl _) _
                            have Kd : Blk wd wc.heap.size 34 [.int .i64 (-1 - (k : Int)), .string ⟨#[]⟩, .int .i64 (j : Int), .int .i64 0, .int .i64 0] := by rw [hwd]; exact Blk.newA wc _ 34
                            have p0 := Kd.cell 0; have p1 := Kd.cell 1; have p2 := Kd.cell 2; have p3 := Kd.cell 3; have p4 := Kd.cell 4
                            simp at p0 p1 p2 p3 p4
                            have s1 := (HBd.cell (p := ⟨qG, k, none⟩) (World.block_lt_of_cell? wc _ d1)).trans d1
                            have s2 := (HBd.cell (p := ⟨qM, k, none⟩) (World.block_lt_of_cell? wc _ d2)).trans d2
                            have hat : ∀ q, q < 5 → wd.cell? ⟨gm, j * 5 + q, none⟩ = (tkc (mkT k j))[q]? := fun q hq => by
                              rw [(hKm.later HBd).cell]
                              have := cellsT_at (mks k (nn k + 1)) j q (by rw [mks_len]; exact hjn) hq
                              rw [mks_at _ _ _ hjn] at this
                              rw [← this, ← htm, List.getElem?_take, if_pos (by omega)]
                            have t0 : wd.cell? ⟨gm, j * 5, none⟩ = some (.int .i64 (-1 - (k : Int))) := hat 0 (by decide)
                            have t1 : wd.cell? ⟨gm, j * 5 + 1, none⟩ = some (.string ⟨#[]⟩) := hat 1 (by decide)
                            have t2 : wd.cell? ⟨gm, j * 5 + 2, none⟩ = some (.int .i64 (j : Int)) := hat 2 (by decide)
                            have t3 : wd.cell? ⟨gm, j * 5 + 3, none⟩ = some (.int .i64 0) := hat 3 (by decide)
                            have t4 : wd.cell? ⟨gm, j * 5 + 4, none⟩ = some (.int .i64 0) := hat 4 (by decide)
                            have HXd := hide_ (G.later HBd)
                            have HBw := hide_ (HB.out.trans (HBd.mono HB.out.size))
                            have hneg : IntKind.i64.wrap (-1 - (k : Int)) = -1 - k := i64w _ (by omega)
                            have HFd : Hid (Hid (Gx w.heap.size wd.drew (.slice (some ⟨qG, 0, none⟩) N cG) (.slice (some ⟨qM, 0, none⟩) N cM) N N F M nn) ∧ Hid (Below w.heap.size w wd.drew)) := ⟨HXd.out.later (Below.refl _ _).drew, HBw.out.drew⟩
                            have hcm : ((nn k + 1 : Nat) : Int) ≤ cm := by omega
                            by_cases hjl : j < nn k
                            · have hjl' : (j : Int) < nn k := by omega
                              have hjd : decide ((j : Int) < (nn k : Int)) = true := decide_eq_true hjl'
                              obtain ⟨gf, cf', yf, hFk2, -, hnf, -, hlf, htf, hKf⟩ := ownS_blk ho (by omega)
                              rw [hFk] at hFk2
                              injection hFk2 with hf1 _ hf3
                              subst hf1 hf3
                              have haf : ∀ q, q < 5 → wd.cell? ⟨gf, j * 5 + q, none⟩ = (tkc (mkT k j))[q]? := fun q hq => by
                                rw [(hKf.later HBd).cell]
                                have := cellsT_at (mks k (nn k)) j q (by rw [mks_len]; exact hjl) hq
                                rw [mks_at _ _ _ hjl] at this
                                rw [← this, ← htf, List.getElem?_take, if_pos (by omega)]
                              have v0 : wd.cell? ⟨gf, j * 5, none⟩ = some (.int .i64 (-1 - (k : Int))) := haf 0 (by decide)
                              have v1 : wd.cell? ⟨gf, j * 5 + 1, none⟩ = some (.string ⟨#[]⟩) := haf 1 (by decide)
                              have v2 : wd.cell? ⟨gf, j * 5 + 2, none⟩ = some (.int .i64 (j : Int)) := haf 2 (by decide)
                              have v3 : wd.cell? ⟨gf, j * 5 + 3, none⟩ = some (.int .i64 0) := haf 3 (by decide)
                              have v4 : wd.cell? ⟨gf, j * 5 + 4, none⟩ = some (.int .i64 0) := haf 4 (by decide)
                              clear haf hKf htf hlf ho hom hMk hKm htm hlm hat hFk G HX HB HXd HBw HBd Kd hcG hcM
                              go_upto_region 41 with fail
                              rw [← hwd]
                              clear hwd d1 d2
                              go_region
                              go_wp2
                              go_roundw
                              case rel => exact ⟨j + 1, by go_num, by omega, HFd.out.1, HFd.out.2⟩
                              case measure => simp [intOf]; omega
                            · have hjl' : ¬ (j : Int) < nn k := by omega
                              have hjd : decide ((j : Int) < (nn k : Int)) = false := decide_eq_false hjl'
                              clear ho hom hMk hKm htm hlm hat hFk G HX HB HXd HBw HBd Kd hcG hcM
                              go_upto_region 41 with fail
                              rw [← hwd]
                              clear hwd d1 d2
                              go_region
                              go_wp2
                              go_roundw
                              case rel => exact ⟨j + 1, by go_num, by omega, HFd.out.1, HFd.out.2⟩
                              case measure => simp [intOf]; omega
                          · obtain rfl : j = nn k + 1 := by omega
                            clear ho hom hMk hKm htm hlm hFk G hcG hcM
                            go_wp2
                            go_roundw
                            case rel => exact ⟨k + 1, by go_num, by omega, HX, HB⟩
                            case measure => simp [intOf]; omega
                      · obtain rfl : k = N := by omega
                        go_wp2
                        go_ret
                        exact ⟨rfl, HB.out⟩
end Go.Proofs.Ytoodafhljgdghaa
