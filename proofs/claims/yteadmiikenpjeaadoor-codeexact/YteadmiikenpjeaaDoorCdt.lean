/- Code: names, operandText, Print's closure over the operands; eachNamed for it. -/
import Derived.Test.YteadmiikenpjeaaDoorCds
import Derived.Test.YteadmiikenpjeaaDoorCdh
import Derived.Lib.ItoaLen
namespace Go.Proofs.YteadmiikenpjeaaDoor
open Go.RowKit
set_option linter.unusedVariables false

def nmT (op : Int) : List UInt8 :=
  if op = 1 then [117, 105, 110, 116] else if op = 2 then [117, 105, 110, 116, 115] else if op = 3 then [98, 111, 111, 108] else if op = 4 then [118, 97, 114, 105, 110, 116] else if op = 5 then [115, 101, 113] else if op = 6 then [115, 116, 114, 117, 99, 116] else if op = 7 then [111, 112, 116, 105, 111, 110] else if op = 8 then [117, 110, 105, 111, 110] else if op = 9 then [97, 114, 109] else if op = 10 then [111, 102, 102, 115, 101, 116] else if op = 11 then [102, 105, 114, 115, 116] else if op = 12 then [115, 108, 111, 116, 115] else if op = 13 then [105, 116, 101, 109] else if op = 14 then [108, 101, 115, 115] else if op = 15 then [112, 97, 114, 116, 115] else if op = 16 then [99, 97, 108, 108] else if op = 17 then [112, 97, 114, 116] else if op = 18 then [116, 97, 105, 108] else if op = 19 then [106, 117, 109, 112] else if op < 33 then [114, 101, 116] else if op = 33 then [110, 117, 109, 98, 101, 114] else if op = 34 then [110, 117, 109, 98, 101, 114, 115] else if op = 35 then [102, 108, 97, 103] else if op = 36 then [108, 101, 98] else if op = 37 then [109, 97, 110, 121] else if op = 38 then [117, 112, 116, 111] else if op = 39 then [102, 105, 101, 108, 100, 115] else if op = 40 then [109, 97, 121, 98, 101] else if op = 41 then [99, 104, 111, 105, 99, 101] else if op = 42 then [114, 111, 111, 109] else if op = 43 then [115, 108, 111, 116] else if op = 44 then [101, 110, 116, 101, 114] else if op = 45 then [101, 97, 99, 104] else if op = 46 then [97, 112, 112, 101, 110, 100] else [97, 103, 97, 105, 110]
def opT (n : Int) : List UInt8 := if n = -1 then [45] else Lib.itoa n
def opS (n : Int) : List UInt8 := 32 :: opT n
theorem cat_data (a b : ByteArray) : (a ++ b).data.toList = a.data.toList ++ b.data.toList := by simp [ByteArray.data_append]
set_option maxRecDepth 100000 in
set_option maxHeartbeats 4000000 in
theorem dname_any (op : Int) (w : World) (h33 : op < 33) : Calls Tryd.prog 58 #[.int .i64 op] w fun e w' => e = .returned (.string ⟨(nmT op).toArray⟩) ∧ w = w' := by
  go_enter Tryd.func58, Tryd.ntmps58
  go_wp2
  all_goals
    go_ret
    refine ⟨?_, rfl⟩
    first
      | (rename_i h; have h := eq_of_beq h; subst h; rfl)
      | (simp only [beq_eq_false_iff_ne, ne_eq] at *
         have h : nmT op = [114, 101, 116] := by
           unfold nmT
           repeat (first | rw [if_neg (by omega)] | rw [if_pos (by omega)])
         rw [h]; rfl)
set_option maxRecDepth 100000 in
set_option maxHeartbeats 4000000 in
theorem ename_any (op : Int) (w : World) (h33 : 33 ≤ op) : Calls Tryd.prog 59 #[.int .i64 op] w fun e w' => e = .returned (.string ⟨(nmT op).toArray⟩) ∧ w = w' := by
  go_enter Tryd.func59, Tryd.ntmps59
  go_wp2
  all_goals
    go_ret
    refine ⟨?_, rfl⟩
    first
      | (rename_i h; have h := eq_of_beq h; subst h; rfl)
      | (simp only [beq_eq_false_iff_ne, ne_eq] at *
         have h : nmT op = [97, 103, 97, 105, 110] := by
           unfold nmT
           repeat rw [if_neg (by omega)]
         rw [h]; rfl)
theorem name_any (op : Int) (w : World) : Calls Tryd.prog 33 #[.int .i64 op] w fun e w' => e = .returned (.string ⟨(nmT op).toArray⟩) ∧ w = w' := by
  generalize hn : (⟨(nmT op).toArray⟩ : ByteArray) = s
  by_cases h : op < 33
  · have HC := hide_ (dname_any op w h)
    rw [hn] at HC
    go_enter Tryd.func33, Tryd.ntmps33
    go_wp2_with (go_at_call 58; refine HC.out.mono ?_; rintro e w1 ⟨rfl, rfl⟩)
    go_ret
    exact ⟨rfl, rfl⟩
  · have HC := hide_ (ename_any op w (by omega))
    rw [hn] at HC
    go_enter Tryd.func33, Tryd.ntmps33
    go_wp2_with (go_at_call 59; refine HC.out.mono ?_; rintro e w1 ⟨rfl, rfl⟩)
    go_ret
    exact ⟨rfl, rfl⟩
theorem mname_any (enc : Bool) (w : World) : Calls Tryd.prog 32 #[.bool enc] w fun e w' => e = .returned (.string ⟨(if enc then [101, 110, 99, 111, 100, 101, 114] else [100, 101, 99, 111, 100, 101, 114] : List UInt8).toArray⟩) ∧ w = w' := by
  cases enc
  all_goals
    go_enter Tryd.func32, Tryd.ntmps32
    go_wp2
    go_ret
    exact ⟨rfl, rfl⟩
theorem opText_any (n : Int) (w : World) (hn : -1 ≤ n ∧ n ≤ 16777216) (HT : Hid (TabB w.heap.size w)) : Calls Tryd.prog 35 #[.int .i64 n] w fun e w' => e = .returned (.string ⟨(opT n).toArray⟩) ∧ Below w.heap.size w w' := by
  by_cases h1 : n = -1
  · subst h1
    go_enter Tryd.func35, Tryd.ntmps35
    go_wp2
    go_ret
    exact ⟨rfl, Below.refl _ _⟩
  · have hb : (n == -1) = false := by simpa using h1
    have e1 : opT n = Lib.itoa n := by unfold opT; rw [if_neg h1]
    have HC := Tryd.strconv_Itoa n (by omega) (by omega) w HT.out.here
    rw [e1]
    generalize (⟨(Lib.itoa n).toArray⟩ : ByteArray) = s at *
    have HCo := hide_ HC
    clear HC
    go_enter Tryd.func35, Tryd.ntmps35
    go_wp2_with (go_at_call 60; refine HCo.out.mono ?_; rintro e w1 ⟨rfl, k, os, rfl⟩)
    go_ret
    exact ⟨rfl, Lib.below_grow w.heap.size w (Nat.le_refl _) k os⟩
abbrev fnS (gb : Nat) : Value := .func (.func 29) #[] #[.pointer (some ⟨gb, 0, none⟩)]
theorem itoa_len (n : Int) (h : -1 ≤ n ∧ n ≤ 16777216) : (opT n).length ≤ 30 := by
  unfold opT
  split
  · simp
  · exact Nat.le_trans (Lib.itoa_length_le n (by omega) (by omega)) (by omega)
set_option maxRecDepth 100000 in
set_option maxHeartbeats 4000000 in
theorem prn3_c (B gb gs : Nat) (l : List UInt8) (n : Int) (w : World) (hn : -1 ≤ n ∧ n ≤ 16777216) (hl : l.length ≤ 1000000000) (H : Hid (Bt w B gb l)) (HT : Hid (TabB B w)) (HP : Hid (Blk w gs 64 [fnS gb])) :
    Calls Tryd.prog 34 #[.int .i64 n, .pointer (some ⟨gs, 0, none⟩)] w fun e w' => e = .returned (.tuple #[]) ∧ Hid (Bt w' B gb (l ++ opS n)) ∧ Hid (Kb B w w') := by
  have hBw := H.out.size
  have HOp : Hid (Calls Tryd.prog 35 #[.int .i64 n] w.drew fun e w' => e = .returned (.string ⟨(opT n).toArray⟩) ∧ Below w.heap.size w.drew w') := hide_ (opText_any n w.drew hn (hide_ (fun w' hb => HT.out w' (((Below.refl _ _).drew).trans (hb.mono hBw)))))
  have hol := itoa_len n hn
  have HSz : Hid ((⟨#[32]⟩ ++ ⟨(opT n).toArray⟩ : ByteArray).size ≤ 1000000) := hide_ (by rw [Lib.size_eq, cat_data]; simp; omega)
  have HDt : Hid ((⟨#[32]⟩ ++ ⟨(opT n).toArray⟩ : ByteArray).data.toList = opS n) := hide_ (by rw [cat_data]; rfl)
  have HSS : Hid (∀ w', Below w.heap.size w w' → (fun w' => w'.cell? ⟨gs, 0, none⟩ = some (fnS gb)) w') := hide_ (fun w' hb => by have := (HP.out.later hb).cell 0; simpa using this)
  have HSay : Hid (∀ (w' : World) (s : ByteArray), Below w.heap.size w w' → s.size ≤ 1000000 → Calls Tryd.prog 29 #[.string s, .pointer (some ⟨gb, 0, none⟩)] w' fun e w'' => e = .returned (.tuple #[]) ∧ Hid (Bt w'' B gb (l ++ s.data.toList)) ∧ Hid (Kb B w' w'')) := hide_ (fun w' s hb hs => say_c B gb l s w' hl hs (hide_ (H.out.later hb)))
  have hcat : ¬ 9223372036854775807 < 1 + (⟨(opT n).toArray⟩ : ByteArray).size := by rw [Lib.size_eq]; simp; omega
  generalize hot : (⟨(opT n).toArray⟩ : ByteArray) = ot at *
  clear hot
  go_enter Tryd.func34, Tryd.ntmps34
  go_upto_region 0 with fail
  refine wp_region_last 4 (fun w' => w'.cell? ⟨gs, 0, none⟩ = some (fnS gb)) (by kernel_rfl) (HSS.out _ ((Below.refl w.heap.size w).drew)) (fun hHeld => ?_)
  refine wpAnyF_take [4] (by kernel_rfl) (i := 0) (v := ?vf1) rfl (by kernel_rfl) (by kernel_rfl) (by kernel_rfl) (fun _ _ _ h => h) (Or.inl ⟨by kernel_rfl, ?hyf1⟩) hHeld ?restf1
  case hyf1 => intro w' hSw; (try dsimp only at hSw); go_simp; try with_reducible rfl
  simp only [Act.put]
  refine wpAnyF_take [4, 2] (by kernel_rfl) (i := 1) (v := ?vf2) rfl (by kernel_rfl) (by kernel_rfl) (by kernel_rfl) (fun _ _ _ h => h) (Or.inl ⟨by kernel_rfl, ?hyf2⟩) hHeld ?restf2
  case hyf2 => intro w' hSw; (try dsimp only at hSw); go_simp; try with_reducible rfl
  simp only [Act.put]
  refine wpAnyF_ready (rs := [2]) (by kernel_rfl) (by simp) ?_
  refine AllReadyF.cons rfl (fun K hK => ?_) AllReadyF.nil
  go_simp
  refine HOp.out.mono ?_
  rintro e wC ⟨rfl, hbC⟩
  dsimp only
  have HBC := hide_ (((Below.refl w.heap.size w).drew).trans hbC)
  clear hbC
  refine hK.out _ _ (HSS.out _ HBC.out) (fun hHeld => ?_)
  clear hK K
  refine wpAnyF_take [4] (by kernel_rfl) (i := 3) (v := ?vf3) rfl (by kernel_rfl) (by kernel_rfl) (by kernel_rfl) (fun _ _ _ h => h) (Or.inl ⟨by kernel_rfl, ?hyf3⟩) hHeld ?restf3
  case hyf3 => intro w' hSw; (try dsimp only at hSw); go_simp; try with_reducible rfl
  simp only [Act.put]
  refine wpAnyF_ready (rs := [4]) (by kernel_rfl) (by simp) ?_
  refine AllReadyF.last rfl (fun K hK => ?_)
  go_simp
  refine (HSay.out _ _ HBC.out HSz.out).mono ?_
  rintro e wD ⟨rfl, HX, HK⟩
  dsimp only
  refine hK.out _ _ ?_
  clear hK K
  refine wpAnyF_done (by kernel_rfl) ?_ _
  clear HSS
  go_wp2
  refine bodyPost_end (results_none rfl _ _ _) rfl ⟨rfl, ?_, hide_ ((Kb.of_below hBw HBC.out).trans HK.out)⟩
  rw [← HDt.out]
  exact HX
theorem flatS_len : ∀ (l : List Int), (∀ n ∈ l, -1 ≤ n ∧ n ≤ 16777216) → (l.flatMap opS).length ≤ 31 * l.length
  | [], _ => by simp
  | n :: l, h => by
    have a := itoa_len n (h n (by simp))
    have b := flatS_len l (fun m hm => h m (by simp [hm]))
    rw [List.flatMap_cons, List.length_append, List.length_cons]
    unfold opS
    unfold opS at b
    simp only [List.length_cons]
    omega
set_option maxRecDepth 100000 in
set_option maxHeartbeats 4000000 in
theorem eachP_any (B gb gp : Nat) (l : List UInt8) (x : In) (w : World) (hx : InB x) (hl : l.length ≤ 900000000) (H : Hid (Bt w B gb l)) (HP : Hid (Blk w gp 64 [fnS gb])) (HT : Hid (TabB B w)) :
    Calls Tryd.prog 26 #[.agg #[.int .i64 x.op, .int .i64 x.a, .int .i64 x.b, .int .i64 x.c], .func (.func 34) #[] #[.pointer (some ⟨gp, 0, none⟩)]] w fun e w' => e = .returned (.tuple #[]) ∧ Hid (Bt w' B gb (l ++ (nmd x).flatMap opS)) ∧ Hid (Kb B w w') := by
  have hBw := H.out.size
  obtain ⟨w1, hw1⟩ : ∃ wx, wx = w.alloc (.cells #[.int .i64 x.op, .int .i64 x.a, .int .i64 x.b, .int .i64 x.c] 41) := ⟨_, rfl⟩
  have hB1 : Below w.heap.size w w1 := by rw [hw1]; exact below1 _ _
  have K1 : Hid (Blk w1 w.heap.size 41 (inc x)) := hide_ (by rw [hw1]; exact Blk.newA w _ _)
  have HB1 := hide_ hB1
  have q0 := K1.out.cell 0
  simp [inc] at q0
  have HKi := hide_ (kinds_any x.op w1)
  have HIn := hide_ hx
  have HNm : Hid (nmd x = nmj (kin x.op) x 3) := hide_ rfl
  generalize hkk : kin x.op = kk at *
  obtain ⟨k0, k1, k2⟩ := kk
  unfold kv at HKi
  simp only at HKi
  clear hkk hB1 hx
  go_enter Tryd.func26, Tryd.ntmps26
  go_upto_region 1 with fail
  rw [← hw1]
  clear hw1
  go_wp2_with fail
  refine HKi.out.mono ?_
  rintro e w2 ⟨rfl, hB2⟩
  obtain ⟨w3, hw3⟩ : ∃ wx, wx = w2.alloc (.cells #[.int .i64 k0, .int .i64 k1, .int .i64 k2] 80) := ⟨_, rfl⟩
  have hB3 : Below w2.heap.size w2 w3 := by rw [hw3]; exact below1 _ _
  have K3 : Hid (Blk w3 w2.heap.size 80 [.int .i64 k0, .int .i64 k1, .int .i64 k2]) := hide_ (by rw [hw3]; exact Blk.newA w2 _ _)
  have hB13 := below_to hB2 hB3
  have KI3 := hide_ (K1.out.later hB13)
  have HB3 := hide_ (below_to HB1.out hB13)
  have HOp := hide_ (operands_any x w3)
  clear q0
  have q0 := KI3.out.cell 0; have q1 := KI3.out.cell 1; have q2 := KI3.out.cell 2; have q3 := KI3.out.cell 3
  simp [inc] at q0 q1 q2 q3
  clear hB2 hB3 hB13 HKi
  go_upto_region 2 with fail
  rw [← hw3]
  clear hw3
  go_wp2_with fail
  refine HOp.out.mono ?_
  rintro e w4 ⟨rfl, hB4⟩
  have K4 := hide_ (K3.out.later hB4)
  have HB4 := hide_ (below_to HB3.out hB4)
  have HX4 := hide_ (H.out.later HB4.out)
  have HP4 := hide_ (HP.out.later HB4.out)
  have HK4 : Hid (Kb B w w4) := hide_ (Kb.of_below hBw HB4.out)
  have HT4 : Hid (TabB B w4) := hide_ (HT.out.on HK4.out.1)
  generalize hg2 : w2.heap.size = g2 at *
  clear hB4 q0 q1 q2 q3 HOp K3 KI3 HB3 HB1 K1 hg2 H HP HB4
  go_wp2_with fail
  go_loopw [12] (fun x12 wr => ∃ j : Nat, j ≤ 3 ∧ x12 = .int .i64 (j : Int) ∧ Hid (Bt wr B gb (l ++ (nmj (k0, k1, k2) x j).flatMap opS)) ∧ Hid (Kb B w4 wr)) (fun x12 _ => 3 - (intOf x12).toNat)
  case atStart => exact ⟨0, by omega, rfl, hide_ (by have := HX4.out; simpa [nmj] using this), hide_ (Kb.refl _ _)⟩
  case round =>
    obtain ⟨j, hj, rfl, HX, HK⟩ := hrel
    generalize wr = wq at *
    by_cases hlt : j < 3
    · have KKq := hide_ (HK.out.2 g2 _ _ (by decide) (by decide) K4.out)
      have HPq := hide_ (HK.out.2 gp _ _ (by decide) (by decide) HP4.out)
      have hnj := nmj_len x (k0, k1, k2) j
      have hfl := flatS_len (nmj (k0, k1, k2) x j) (fun n hn => nmj_in HIn.out _ j (by omega) n hn)
      have HCj := hide_ (prn3_c B gb gp (l ++ (nmj (k0, k1, k2) x j).flatMap opS) (oat x j) wq (HIn.out.nm j hlt) (by rw [List.length_append]; omega) HX (hide_ (HT4.out.on HK.out.1)) HPq)
      have HN1 : Hid (kat (k0, k1, k2) j ≠ 0 → l ++ (nmj (k0, k1, k2) x j).flatMap opS ++ opS (oat x j) = l ++ (nmj (k0, k1, k2) x (j + 1)).flatMap opS) := hide_ (fun h => by rw [nmj, if_pos h]; simp)
      have HN0 : Hid (kat (k0, k1, k2) j = 0 → l ++ (nmj (k0, k1, k2) x j).flatMap opS = l ++ (nmj (k0, k1, k2) x (j + 1)).flatMap opS) := hide_ (fun h => by rw [nmj, if_neg (by simp [h])]; simp)
      have c0 := KKq.out.cell 0; have c1 := KKq.out.cell 1; have c2 := KKq.out.cell 2
      simp at c0 c1 c2
      have ix0 := ix3_0 (.int .i64 x.a) (.int .i64 x.b) (.int .i64 x.c)
      have ix1 := ix3_1 (.int .i64 x.a) (.int .i64 x.b) (.int .i64 x.c)
      have ix2 := ix3_2 (.int .i64 x.a) (.int .i64 x.b) (.int .i64 x.c)
      clear hnj hfl
      have h3 : j = 0 ∨ j = 1 ∨ j = 2 := by omega
      rcases h3 with rfl | rfl | rfl
      · simp only [kat, oat] at HCj HN1 HN0
        by_cases hk : k0 = 0
        · have HX2 := HX.out
          rw [HN0.out hk] at HX2
          subst hk
          have HX3 := hide_ HX2
          clear HX2
          go_wp2_with fail
          go_roundw
          case rel => exact ⟨1, by omega, by go_num, HX3, HK⟩
          case measure => simp [intOf]
        · have hkb : (k0 != 0) = true := by simpa using hk
          rw [HN1.out hk] at HCj
          go_wp2_with (go_at_call 34; refine HCj.out.mono ?_; rintro e w' ⟨rfl, HX2, HK2⟩)
          go_roundw
          case rel => exact ⟨1, by omega, by go_num, HX2, hide_ (HK.out.trans HK2.out)⟩
          case measure => simp [intOf]
      · simp only [kat, oat] at HCj HN1 HN0
        by_cases hk : k1 = 0
        · have HX2 := HX.out
          rw [HN0.out hk] at HX2
          subst hk
          have HX3 := hide_ HX2
          clear HX2
          go_wp2_with fail
          go_roundw
          case rel => exact ⟨2, by omega, by go_num, HX3, HK⟩
          case measure => simp [intOf]
        · have hkb : (k1 != 0) = true := by simpa using hk
          rw [HN1.out hk] at HCj
          go_wp2_with (go_at_call 34; refine HCj.out.mono ?_; rintro e w' ⟨rfl, HX2, HK2⟩)
          go_roundw
          case rel => exact ⟨2, by omega, by go_num, HX2, hide_ (HK.out.trans HK2.out)⟩
          case measure => simp [intOf]
      · simp only [kat, oat] at HCj HN1 HN0
        by_cases hk : k2 = 0
        · have HX2 := HX.out
          rw [HN0.out hk] at HX2
          subst hk
          have HX3 := hide_ HX2
          clear HX2
          go_wp2_with fail
          go_roundw
          case rel => exact ⟨3, by omega, by go_num, HX3, HK⟩
          case measure => simp [intOf]
        · have hkb : (k2 != 0) = true := by simpa using hk
          rw [HN1.out hk] at HCj
          go_wp2_with (go_at_call 34; refine HCj.out.mono ?_; rintro e w' ⟨rfl, HX2, HK2⟩)
          go_roundw
          case rel => exact ⟨3, by omega, by go_num, HX2, hide_ (HK.out.trans HK2.out)⟩
          case measure => simp [intOf]
    · obtain rfl : j = 3 := by omega
      go_wp2
      refine bodyPost_end (results_none rfl _ _ _) rfl ⟨rfl, ?_, hide_ (HK4.out.trans HK.out)⟩
      rw [HNm.out]
      exact HX
end Go.Proofs.YteadmiikenpjeaaDoor
