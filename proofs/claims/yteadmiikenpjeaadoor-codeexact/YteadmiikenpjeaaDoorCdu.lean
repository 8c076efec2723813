/- Code: Print. -/
import Derived.Test.YteadmiikenpjeaaDoorCdt
namespace Go.Proofs.YteadmiikenpjeaaDoor
open Go.RowKit
set_option linter.unusedVariables false

section
variable {B : Nat} {w w' : World} {v : Value} {l : List UInt8}
theorem cells_ints (l : List UInt8) : Lib.byteCells l = cellsL .u8 (l.map fun b => (b.toNat : Int)) := by simp [Lib.byteCells, cellsL]
theorem nums_back (l : List UInt8) : strOfNums (l.map fun b => (b.toNat : Int)) = ⟨l.toArray⟩ := by
  unfold strOfNums
  rw [List.map_map]
  have e : ((fun n : Int => UInt8.ofNat n.toNat) ∘ fun b : UInt8 => (b.toNat : Int)) = id := by funext b; simp
  rw [e, List.map_id]
theorem bt_conv (h : w.ownsRow B 5 1 v l.length (Lib.byteCells l)) : ∃ a cap, v = .slice a l.length cap ∧ (convert 30 9 (.slice a l.length cap)).run Tryd.prog w = .ok (.string ⟨l.toArray⟩) w := by
  have hr : ∃ a cap, v = .slice a l.length cap ∧ Row .u8 w a (l.map fun b => (b.toNat : Int)) := by
    rcases Nat.eq_zero_or_pos l.length with h0 | h0
    · obtain ⟨a, cap, rfl⟩ := Bt.form h
      have : l = [] := List.eq_nil_of_length_eq_zero h0
      subst this
      refine ⟨a, cap, rfl, ?_⟩
      cases a with
      | none => exact .inl ⟨rfl, rfl⟩
      | some x => exact .inr ⟨x, rfl, fun i hi => by simp at hi⟩
    · obtain ⟨g, cap, ys, rfl, hb, hn, hm, hl, ht, hK⟩ := ownS_blk h h0
      refine ⟨_, cap, rfl, Row.mk fun i hi => ?_⟩
      rw [List.length_map] at hi
      rw [hK.cell, Nat.zero_add]
      have e : ys[i]? = (Lib.byteCells l)[i]? := by rw [← ht, List.getElem?_take, if_pos (by omega)]
      rw [e]
      simp [Lib.byteCells, List.getD, hi]
  obtain ⟨a, cap, rfl, hrow⟩ := hr
  refine ⟨a, cap, rfl, ?_⟩
  have := conv_row E23 Tryd.underlying9 w a l.length cap _ (by simp) hrow
  rw [nums_back] at this
  exact this
end
def mchT (enc : Bool) : List UInt8 := if enc then [101, 110, 99, 111, 100, 101, 114] else [100, 101, 99, 111, 100, 101, 114]
def entT (i : Nat) (e : Int) : List UInt8 := [116, 121, 112, 101, 32] ++ Lib.itoa (i : Int) ++ [32] ++ Lib.itoa e ++ [10]
def insT (i : Nat) (x : In) : List UInt8 := Lib.itoa (i : Int) ++ 32 :: nmT x.op ++ (nmd x).flatMap opS ++ [10]
def entsT (E : List Int) : Nat → List UInt8
  | 0 => []
  | j + 1 => entsT E j ++ entT j (E.getD j 0)
def codeT (C : List In) : Nat → List UInt8
  | 0 => []
  | j + 1 => codeT C j ++ insT j (C.getD j in0)
def prnP (enc : Bool) (C : List In) (E : List Int) : List UInt8 := mchT enc ++ [10] ++ entsT E E.length ++ codeT C C.length
def prnA (enc : Bool) (C : List In) (E : List Int) : List UInt8 := if chk enc C E = (0, 0) then prnP enc C E else []
theorem itoa21 (n : Int) (h : -9223372036854775808 ≤ n ∧ n ≤ 9223372036854775807) : (Lib.itoa n).length ≤ 21 := Lib.itoa_length_le n h.1 h.2
theorem entT_len (i : Nat) (e : Int) (hi : i ≤ 1048576) (he : 0 ≤ e ∧ e ≤ 1048576) : (entT i e).length ≤ 60 := by
  have a := itoa21 i (by omega)
  have b := itoa21 e (by omega)
  unfold entT
  simp only [List.length_append, List.length_cons, List.length_nil]
  omega
theorem nmT_len (op : Int) : (nmT op).length ≤ 10 := by
  unfold nmT
  by_cases h : op = 1
  · rw [if_pos h]; decide
  rw [if_neg h]; clear h
  by_cases h : op = 2
  · rw [if_pos h]; decide
  rw [if_neg h]; clear h
  by_cases h : op = 3
  · rw [if_pos h]; decide
  rw [if_neg h]; clear h
  by_cases h : op = 4
  · rw [if_pos h]; decide
  rw [if_neg h]; clear h
  by_cases h : op = 5
  · rw [if_pos h]; decide
  rw [if_neg h]; clear h
  by_cases h : op = 6
  · rw [if_pos h]; decide
  rw [if_neg h]; clear h
  by_cases h : op = 7
  · rw [if_pos h]; decide
  rw [if_neg h]; clear h
  by_cases h : op = 8
  · rw [if_pos h]; decide
  rw [if_neg h]; clear h
  by_cases h : op = 9
  · rw [if_pos h]; decide
  rw [if_neg h]; clear h
  by_cases h : op = 10
  · rw [if_pos h]; decide
  rw [if_neg h]; clear h
  by_cases h : op = 11
  · rw [if_pos h]; decide
  rw [if_neg h]; clear h
  by_cases h : op = 12
  · rw [if_pos h]; decide
  rw [if_neg h]; clear h
  by_cases h : op = 13
  · rw [if_pos h]; decide
  rw [if_neg h]; clear h
  by_cases h : op = 14
  · rw [if_pos h]; decide
  rw [if_neg h]; clear h
  by_cases h : op = 15
  · rw [if_pos h]; decide
  rw [if_neg h]; clear h
  by_cases h : op = 16
  · rw [if_pos h]; decide
  rw [if_neg h]; clear h
  by_cases h : op = 17
  · rw [if_pos h]; decide
  rw [if_neg h]; clear h
  by_cases h : op = 18
  · rw [if_pos h]; decide
  rw [if_neg h]; clear h
  by_cases h : op = 19
  · rw [if_pos h]; decide
  rw [if_neg h]; clear h
  by_cases h : op < 33
  · rw [if_pos h]; decide
  rw [if_neg h]; clear h
  by_cases h : op = 33
  · rw [if_pos h]; decide
  rw [if_neg h]; clear h
  by_cases h : op = 34
  · rw [if_pos h]; decide
  rw [if_neg h]; clear h
  by_cases h : op = 35
  · rw [if_pos h]; decide
  rw [if_neg h]; clear h
  by_cases h : op = 36
  · rw [if_pos h]; decide
  rw [if_neg h]; clear h
  by_cases h : op = 37
  · rw [if_pos h]; decide
  rw [if_neg h]; clear h
  by_cases h : op = 38
  · rw [if_pos h]; decide
  rw [if_neg h]; clear h
  by_cases h : op = 39
  · rw [if_pos h]; decide
  rw [if_neg h]; clear h
  by_cases h : op = 40
  · rw [if_pos h]; decide
  rw [if_neg h]; clear h
  by_cases h : op = 41
  · rw [if_pos h]; decide
  rw [if_neg h]; clear h
  by_cases h : op = 42
  · rw [if_pos h]; decide
  rw [if_neg h]; clear h
  by_cases h : op = 43
  · rw [if_pos h]; decide
  rw [if_neg h]; clear h
  by_cases h : op = 44
  · rw [if_pos h]; decide
  rw [if_neg h]; clear h
  by_cases h : op = 45
  · rw [if_pos h]; decide
  rw [if_neg h]; clear h
  by_cases h : op = 46
  · rw [if_pos h]; decide
  rw [if_neg h]; clear h
  decide
theorem insT_len (i : Nat) (x : In) (hi : i ≤ 1048576) (hx : InB x) : (insT i x).length ≤ 150 := by
  have a := itoa21 i (by omega)
  have b := nmT_len x.op
  have c := flatS_len (nmd x) (fun n hn => nmj_in hx _ 3 (by omega) n hn)
  have d := nmj_len x (kin x.op) 3
  unfold insT
  unfold nmd at c ⊢
  simp only [List.length_append, List.length_cons, List.length_nil]
  omega
theorem entsT_len (E : List Int) (hE : ∀ i, i < E.length → 0 ≤ E.getD i 0 ∧ E.getD i 0 ≤ 1048576) (hl : E.length ≤ 1048576) : ∀ j, j ≤ E.length → (entsT E j).length ≤ 60 * j
  | 0, _ => by simp [entsT]
  | j + 1, hj => by
    have a := entsT_len E hE hl j (by omega)
    have b := entT_len j (E.getD j 0) (by omega) (hE j (by omega))
    rw [entsT, List.length_append]
    omega
theorem codeT_len (C : List In) (hC : ∀ (i : Nat) (x : In), C[i]? = some x → InB x) (hl : C.length ≤ 1048576) : ∀ j, j ≤ C.length → (codeT C j).length ≤ 150 * j
  | 0, _ => by simp [codeT]
  | j + 1, hj => by
    have hx : C[j]? = some (C[j]'hj) := List.getElem?_eq_getElem hj
    have a := codeT_len C hC hl j (by omega)
    have b := insT_len j (C[j]'hj) (by omega) (hC j _ hx)
    rw [codeT, List.length_append, List.getD, hx, Option.getD_some]
    omega
set_option maxRecDepth 100000 in
set_option maxHeartbeats 8000000 in
theorem print_any (enc : Bool) (ac ae : Option Addr) (cc ce : Nat) (C : List In) (E : List Int) (w : World) (hcc : C.length ≤ cc) (hcl : cc ≤ 9223372036854775807) (hCl : C.length ≤ 140737488355328) (hce : E.length ≤ ce) (hel : E.length ≤ 140737488355328) (hr : Hid (IRow w ac C)) (he : Hid (Row .i64 w ae E)) (HT : Hid (TabB w.heap.size w)) :
    Calls Tryd.prog 10 #[.agg #[.bool enc, .slice ac C.length cc, .slice ae E.length ce]] w fun e w' => e = .returned (.tuple #[.string ⟨(prnA enc C E).toArray⟩, .agg #[.int .i64 (chk enc C E).1, .int .i64 (chk enc C E).2]]) ∧ Below w.heap.size w w' := by
  have hmf : ∀ (fn : Fn) (first cap : Array Value) (w : World), (Instr.makeFunc fn first cap).run Tryd.prog w = .ok (.func fn first cap) w := fun _ _ _ _ => rfl
  obtain ⟨sA, hsA⟩ : ∃ s : ByteArray, ⟨(prnA enc C E).toArray⟩ = s := ⟨_, rfl⟩
  rw [hsA]
  have HSA := hide_ hsA
  clear hsA
  obtain ⟨w1, hw1⟩ : ∃ wx, wx = (w.alloc (.cells #[.bool enc, .slice ac C.length cc, .slice ae E.length ce] 25)).alloc (.cells #[.int .i64 0, .int .i64 0] 33) := ⟨_, rfl⟩
  have hB1 : Below w.heap.size w w1 := by rw [hw1]; exact below2 _ _ _
  obtain ⟨kp, kf⟩ := blk2 w #[.bool enc, .slice ac C.length cc, .slice ae E.length ce] #[.int .i64 0, .int .i64 0] 25 33
  rw [← hw1] at kp kf
  have KP := hide_ kp
  have KF := hide_ kf
  have HB1 := hide_ hB1
  have p0 := kp.cell 0; have p1 := kp.cell 1; have p2 := kp.cell 2
  simp at p0 p1 p2
  have HCk := hide_ (check_any enc ac ae cc ce C E w1 hcc hcl hCl hce hel (hide_ (hr.out.later hB1)) (hide_ (he.out.later hB1)))
  obtain ⟨fe, hfe⟩ : ∃ x, (chk enc C E).1 = x := ⟨_, rfl⟩
  obtain ⟨fa, hfa⟩ : ∃ x, (chk enc C E).2 = x := ⟨_, rfl⟩
  rw [hfe, hfa] at HCk
  rw [hfe, hfa]
  have HFe := hide_ hfe
  have HFa := hide_ hfa
  have Hgs : Hid (w.heap.size ≤ w.heap.size + 1) := hide_ (by omega)
  clear hB1 kp kf hfe hfa
  go_enter Tryd.func10, Tryd.ntmps10
  go_upto_region 1 with fail
  rw [← hw1]
  clear hw1
  go_wp2_with fail
  refine HCk.out.mono ?_
  rintro e w2 ⟨rfl, hB2⟩
  obtain ⟨w3, hw3⟩ : ∃ wx, wx = w2.alloc (.cells #[.int .i64 fe, .int .i64 fa] 33) := ⟨_, rfl⟩
  have hB3 : Below w2.heap.size w2 w3 := by rw [hw3]; exact below1 _ _
  have K3 : Hid (Blk w3 w2.heap.size 33 [.int .i64 fe, .int .i64 fa]) := hide_ (by rw [hw3]; exact Blk.newA w2 _ _)
  have hB13 := below_to hB2 hB3
  have KP3 := hide_ (KP.out.later hB13)
  have KF3 := hide_ (KF.out.later hB13)
  have HB3 := hide_ (below_to HB1.out hB13)
  clear p0 p1 p2
  have p0 := KP3.out.cell 0; have p1 := KP3.out.cell 1; have p2 := KP3.out.cell 2
  have f0 := K3.out.cell 0; have f1 := K3.out.cell 1
  simp at p0 p1 p2 f0 f1
  clear hB2 hB3 hB13 HCk
  by_cases hfe0 : fe = 0
  · have hck : chk enc C E = (0, 0) := by
      have h1 := HFe.out
      rw [hfe0] at h1
      have h2 : Chk enc C E := by
        by_cases h : chk enc C E = (0, 0)
        · exact chk_ok.1 h
        · exfalso
          unfold chk at h h1
          split at h1
          · cases h1
          · rename_i hl
            rw [if_neg hl] at h
            cases e1 : fst0 (frm enc C E.length) C.length with
            | some i => rw [e1] at h1; cases h1
            | none =>
              rw [e1] at h1 h
              cases e2 : fst0 (entOk C.length E) E.length with
              | some i => rw [e2] at h1; cases h1
              | none => rw [e2] at h; exact h rfl
      exact chk_ok.2 h2
    have HC := hide_ (chk_ok.1 hck)
    have hfa0 : fa = 0 := by rw [← HFa.out, hck]
    subst hfe0 hfa0
    have HEn : Hid (prnA enc C E = prnP enc C E) := hide_ (by unfold prnA; rw [if_pos hck])
    have hncl := HC.out.nc
    have hnel := HC.out.ne
    obtain ⟨w4, hw4⟩ : ∃ wx, wx = (w3.alloc (.cells #[.slice none 0 0] 30)).alloc (.cells #[fnS w3.heap.size] 64) := ⟨_, rfl⟩
    have hB4 : Below w3.heap.size w3 w4 := by rw [hw4]; exact below2 _ _ _
    obtain ⟨kx, kf⟩ := blk2 w3 #[.slice none 0 0] #[fnS w3.heap.size] 30 64
    rw [← hw4] at kx kf
    have hz3 := HB3.out.size
    have HX4 : Hid (Bt w4 w.heap.size w3.heap.size []) := hide_ ⟨by omega, _, kx, World.ownsRow_nil _ _ _ _⟩
    have KG4 := hide_ kf
    have KP4 := hide_ (KP3.out.later hB4)
    have KF4 := hide_ (KF3.out.later hB4)
    have HB4 := hide_ (below_to HB3.out hB4)
    have HT4 : Hid (TabB w.heap.size w4) := hide_ (HT.out.on HB4.out)
    go_upto_region 2 with fail
    rw [← hw3]
    clear hw3
    go_upto_region 7 with fail
    rw [← hw4]
    generalize hgx : w3.heap.size = gx at *
    generalize hgp : gx + 1 = gp at *
    clear hw4 kx kf hB4 hz3 p0 p1 p2 f0 f1 K3 KP3 KF3 HB3 KP KF HB1 hgx hgp hck
    have HMn : Hid (Calls Tryd.prog 32 #[.bool enc] w4.drew fun e w' => e = .returned (.string ⟨(mchT enc).toArray⟩) ∧ w4.drew = w') := hide_ (mname_any enc w4.drew)
    have hcat : ¬ 9223372036854775807 < (⟨(mchT enc).toArray⟩ : ByteArray).size + 1 := by rw [Lib.size_eq]; cases enc <;> decide
    have HDt : Hid ((⟨(mchT enc).toArray⟩ ++ ⟨#[10]⟩ : ByteArray).data.toList = mchT enc ++ [10]) := hide_ (by rw [cat_data])
    have HSz : Hid ((⟨(mchT enc).toArray⟩ ++ ⟨#[10]⟩ : ByteArray).size ≤ 1000000) := hide_ (by rw [Lib.size_eq, cat_data]; cases enc <;> decide)
    have HL5 : Hid ((mchT enc ++ [10]).length ≤ 100) := hide_ (by cases enc <;> decide)
    have HMP : Hid (prnP enc C E = (mchT enc ++ [10]) ++ entsT E E.length ++ codeT C C.length) := hide_ rfl
    generalize (⟨(mchT enc).toArray⟩ : ByteArray) = mn at *
    generalize mchT enc ++ [10] = P5 at *
    have HSay : Hid (∀ (w' : World) (s : ByteArray) (l : List UInt8), Bt w' w.heap.size gx l → l.length ≤ 1000000000 → s.size ≤ 1000000 → Calls Tryd.prog 29 #[.string s, .pointer (some ⟨gx, 0, none⟩)] w' fun e w'' => e = .returned (.tuple #[]) ∧ Hid (Bt w'' w.heap.size gx (l ++ s.data.toList)) ∧ Hid (Kb w.heap.size w' w'')) := hide_ (fun w' s l hx hl hs => say_c w.heap.size gx l s w' hl hs (hide_ hx))
    have HSS : Hid (∀ w', Below w4.heap.size w4 w' → (fun w' => w'.cell? ⟨gp, 0, none⟩ = some (fnS gx) ∧ w'.cell? ⟨w.heap.size, 0, none⟩ = some (.bool enc)) w') := hide_ (fun w' hb => by have x0 := (KG4.out.later hb).cell 0; have x1 := (KP4.out.later hb).cell 0; simp at x0 x1; exact ⟨x0, x1⟩)
    refine wp_region_last 5 (fun w' => w'.cell? ⟨gp, 0, none⟩ = some (fnS gx) ∧ w'.cell? ⟨w.heap.size, 0, none⟩ = some (.bool enc)) (by kernel_rfl) (HSS.out _ ((Below.refl w4.heap.size w4).drew)) (fun hHeld => ?_)
    refine wpAnyF_take [5] (by kernel_rfl) (i := 0) (v := ?vf1) rfl (by kernel_rfl) (by kernel_rfl) (by kernel_rfl) (fun _ _ _ h => h) (Or.inl ⟨by kernel_rfl, ?hyf1⟩) hHeld ?restf1
    case hyf1 => intro w' hSw; (try dsimp only at hSw); go_simp; try with_reducible rfl
    simp only [Act.put]
    refine wpAnyF_take [5, 3, 2] (by kernel_rfl) (i := 1) (v := ?vf2) rfl (by kernel_rfl) (by kernel_rfl) (by kernel_rfl) (fun _ _ _ h => h) (Or.inl ⟨by kernel_rfl, ?hyf2⟩) hHeld ?restf2
    case hyf2 => intro w' hSw; (try dsimp only at hSw); go_simp; try with_reducible rfl
    simp only [Act.put]
    refine wpAnyF_take [5, 3] (by kernel_rfl) (i := 2) (v := ?vf3) rfl (by kernel_rfl) (by kernel_rfl) (by kernel_rfl) (fun _ _ _ h => h) (Or.inl ⟨by kernel_rfl, ?hyf3⟩) hHeld ?restf3
    case hyf3 => intro w' hSw; (try dsimp only at hSw); go_simp; try with_reducible rfl
    simp only [Act.put]
    refine wpAnyF_ready (rs := [3]) (by kernel_rfl) (by simp) ?_
    refine AllReadyF.cons rfl (fun K hK => ?_) AllReadyF.nil
    go_simp
    refine HMn.out.mono ?_
    rintro e wC ⟨rfl, rfl⟩
    dsimp only
    refine hK.out _ _ (HSS.out _ ((Below.refl w4.heap.size w4).drew)) (fun hHeld => ?_)
    clear hK K
    refine wpAnyF_take [5] (by kernel_rfl) (i := 4) (v := ?vf4) rfl (by kernel_rfl) (by kernel_rfl) (by kernel_rfl) (fun _ _ _ h => h) (Or.inl ⟨by kernel_rfl, ?hyf4⟩) hHeld ?restf4
    case hyf4 => intro w' hSw; (try dsimp only at hSw); go_simp; try with_reducible rfl
    simp only [Act.put]
    refine wpAnyF_ready (rs := [5]) (by kernel_rfl) (by simp) ?_
    refine AllReadyF.last rfl (fun K hK => ?_)
    go_simp
    refine (HSay.out _ _ [] (HX4.out.later ((Below.refl _ _).drew)) (by simp) HSz.out).mono ?_
    rintro e w5 ⟨rfl, HX5, HK5⟩
    dsimp only
    refine hK.out _ _ ?_
    clear hK K
    refine wpAnyF_done (by kernel_rfl) ?_ _
    clear HSS
    have HX5b : Hid (Bt w5 w.heap.size gx P5) := hide_ (by have := HX5.out; rw [HDt.out] at this; simpa using this)
    have HK45 := hide_ ((Kb.of_below HB4.out.size ((Below.refl w4.heap.size w4).drew)).trans HK5.out)
    have KP5 := hide_ (HK45.out.2 _ _ _ (by decide) (by decide) KP4.out)
    have KF5 := hide_ (HK45.out.2 _ _ _ (by decide) (by decide) KF4.out)
    have KG5 := hide_ (HK45.out.2 _ _ _ (by decide) (by decide) KG4.out)
    have HB5 := hide_ (HB4.out.trans HK45.out.1)
    have HT5 : Hid (TabB w.heap.size w5) := hide_ (HT.out.on HB5.out)
    clear KP4 KF4 KG4 HK5 HK45 HB4 HX5 HX4 HT4 HMn hcat HDt HSz
    have p1 := KP5.out.cell 1; have p2 := KP5.out.cell 2
    simp at p1 p2
    go_wp2_with fail
    clear p1 p2
    go_loopw [29] (fun x29 wr => ∃ j : Nat, j ≤ E.length ∧ x29 = .int .i64 (j : Int) ∧ Hid (Bt wr w.heap.size gx (P5 ++ entsT E j)) ∧ Hid (Kb w.heap.size w5 wr)) (fun x29 _ => E.length - (intOf x29).toNat)
    case atStart => exact ⟨0, Nat.zero_le _, rfl, hide_ (by have := HX5b.out; simpa [entsT] using this), hide_ (Kb.refl _ _)⟩
    case round =>
      obtain ⟨j, hj, rfl, HXj, HKj⟩ := hrel
      generalize wr = wq at *
      have KPq := hide_ (HKj.out.2 _ _ _ (by decide) (by decide) KP5.out)
      have KGq := hide_ (HKj.out.2 _ _ _ (by decide) (by decide) KG5.out)
      have g0 := KGq.out.cell 0
      simp [fnS] at g0
      by_cases hlt : j < E.length
      · have hlt' : (j : Int) < E.length := by omega
        obtain ⟨b, off, rfl, hb, hcs⟩ := (he.out.later (HB5.out.trans HKj.out.1)).open (by omega)
        have hc := hcs j hlt
        have hen := HC.out.ent j hlt
        have hel := entsT_len E (fun i hi => by have := HC.out.ent i hi; omega) hnel j (by omega)
        have HTk : Hid (entsT E (j + 1) = entsT E j ++ entT j (E.getD j 0)) := hide_ rfl
        generalize E.getD j 0 = vv at *
        have HLp : Hid ((P5 ++ entsT E j).length ≤ 80000000) := hide_ (by rw [List.length_append]; have := HL5.out; omega)
        have i1 := itoa21 (j : Int) (by omega)
        have i2 := itoa21 vv (by omega)
        have HTq : Hid (TabB w.heap.size wq) := hide_ (HT.out.on (HB5.out.trans HKj.out.1))
        have HFin : Hid (P5 ++ entsT E j ++ [116, 121, 112, 101, 32] ++ Lib.itoa (j : Int) ++ [32] ++ Lib.itoa vv ++ [10] = P5 ++ entsT E (j + 1)) := hide_ (by rw [HTk.out]; unfold entT; simp)
        generalize P5 ++ entsT E j = Q at *
        have hQ := HLp.out
        have HC1 := hide_ (HSay.out wq ⟨#[116, 121, 112, 101, 32]⟩ Q HXj.out (by omega) (by decide))
        have e1 : (⟨#[116, 121, 112, 101, 32]⟩ : ByteArray).data.toList = [116, 121, 112, 101, 32] := rfl
        rw [e1] at HC1
        clear hcs hel e1 hQ
        go_upto_region 12 with (go_at_call 29; refine HC1.out.mono ?_; rintro e wa ⟨rfl, HXa, HKa⟩)
        have HC2 := hide_ (num_c w.heap.size gx _ (j : Int) wa (by omega) (by simp; have := HLp.out; omega) HXa (hide_ (HTq.out.on HKa.out.1)))
        go_upto_region 13 with (go_at_call 30; refine HC2.out.mono ?_; rintro e wb ⟨rfl, HXb, HKb⟩)
        have HKab := hide_ (HKa.out.trans HKb.out)
        have KGb := hide_ (HKab.out.2 _ _ _ (by decide) (by decide) KGq.out)
        have g1 := KGb.out.cell 0
        simp [fnS] at g1
        have HC3 := hide_ (HSay.out wb ⟨#[32]⟩ _ HXb.out (by simp; have := HLp.out; omega) (by decide))
        have e2 : (⟨#[32]⟩ : ByteArray).data.toList = [32] := rfl
        rw [e2] at HC3
        clear e2
        go_upto_region 14 with (go_at_call 29; refine HC3.out.mono ?_; rintro e wc ⟨rfl, HXc, HKc⟩)
        have HKac := hide_ (HKab.out.trans HKc.out)
        have HC4 := hide_ (num_c w.heap.size gx _ vv wc (by omega) (by simp; have := HLp.out; omega) HXc (hide_ (HTq.out.on HKac.out.1)))
        go_upto_region 15 with (go_at_call 30; refine HC4.out.mono ?_; rintro e wd ⟨rfl, HXd, HKd⟩)
        have HKad := hide_ (HKac.out.trans HKd.out)
        have KGd := hide_ (HKad.out.2 _ _ _ (by decide) (by decide) KGq.out)
        have g2 := KGd.out.cell 0
        simp [fnS] at g2
        have HC5 := hide_ (HSay.out wd ⟨#[10]⟩ _ HXd.out (by simp; have := HLp.out; omega) (by decide))
        have e3 : (⟨#[10]⟩ : ByteArray).data.toList = [10] := rfl
        rw [e3, HFin.out] at HC5
        clear e3
        go_wp2_with (go_at_call 29; refine HC5.out.mono ?_; rintro e wf ⟨rfl, HXf, HKf⟩)
        go_roundw
        case rel => exact ⟨j + 1, by omega, by go_num, HXf, hide_ ((HKj.out.trans HKad.out).trans HKf.out)⟩
        case measure => simp [intOf]; omega
      · obtain rfl : j = E.length := by omega
        have hel := entsT_len E (fun i hi => by have := HC.out.ent i hi; omega) hnel E.length (by omega)
        have HL7 : Hid ((P5 ++ entsT E E.length).length ≤ 80000000) := hide_ (by rw [List.length_append]; have := HL5.out; omega)
        generalize P5 ++ entsT E E.length = P7 at *
        have KFq := hide_ (HKj.out.2 _ _ _ (by decide) (by decide) KF5.out)
        have HB7 := hide_ (HB5.out.trans HKj.out.1)
        clear HKj KP5 KG5 KF5 HB5 HX5b hel HL5 HT5
        generalize hwz : wq = wz at *
        clear hwz g0
        have p1 := KPq.out.cell 1; have p2 := KPq.out.cell 2
        simp at p1 p2
        go_wp2_with fail
        clear p1 p2
        go_loopw [50] (fun x50 wr => ∃ j : Nat, j ≤ C.length ∧ x50 = .int .i64 (j : Int) ∧ Hid (Bt wr w.heap.size gx (P7 ++ codeT C j)) ∧ Hid (Kb w.heap.size wz wr)) (fun x50 _ => C.length - (intOf x50).toNat)
        case atStart => exact ⟨0, Nat.zero_le _, rfl, hide_ (by have := HXj.out; simpa [codeT] using this), hide_ (Kb.refl _ _)⟩
        case round =>
          obtain ⟨j, hj, rfl, HXk, HKk⟩ := hrel
          generalize wr = wq at *
          by_cases hlt : j < C.length
          · have hlt' : (j : Int) < C.length := by omega
            obtain ⟨b, off, rfl, hb, hcs⟩ := (hr.out.later (HB7.out.trans HKk.out.1)).open (by omega)
            have hx : C[j]? = some (C[j]'hlt) := List.getElem?_eq_getElem hlt
            obtain ⟨i0, i1, i2, i3⟩ := IRow.at (hr.out.later (HB7.out.trans HKk.out.1)) hx
            have HIn := hide_ (HC.out.inB hx)
            have hel := codeT_len C (fun i x hx => HC.out.inB hx) hncl j (by omega)
            have HTk : Hid (codeT C (j + 1) = codeT C j ++ insT j (C[j]'hlt)) := hide_ (by rw [codeT, List.getD, hx, Option.getD_some])
            generalize C[j]'hlt = x at *
            obtain ⟨wA, hwA⟩ : ∃ wx, wx = wq.alloc (.cells #[.int .i64 x.op, .int .i64 x.a, .int .i64 x.b, .int .i64 x.c] 41) := ⟨_, rfl⟩
            have hBA : Below wq.heap.size wq wA := by rw [hwA]; exact below1 _ _
            have KA : Hid (Blk wA wq.heap.size 41 (inc x)) := hide_ (by rw [hwA]; exact Blk.newA wq _ _)
            have HKA := hide_ (HKk.out.trans (Kb.of_below HXk.out.size hBA))
            have KGA := hide_ (HKA.out.2 _ _ _ (by decide) (by decide) KGq.out)
            have HXA := hide_ (HXk.out.later hBA)
            have HTA : Hid (TabB w.heap.size wA) := hide_ (HT.out.on (HB7.out.trans HKA.out.1))
            have HLp : Hid ((P7 ++ codeT C j).length ≤ 240000000) := hide_ (by rw [List.length_append]; have := HL7.out; omega)
            have l1 := itoa21 (j : Int) (by omega)
            have l2 := nmT_len x.op
            have l3 := flatS_len (nmd x) (fun n hn => nmj_in HIn.out _ 3 (by omega) n hn)
            have l4 := nmj_len x (kin x.op) 3
            have l5 : (nmd x).length ≤ 3 := l4
            have HFin : Hid (P7 ++ codeT C j ++ Lib.itoa (j : Int) ++ 32 :: nmT x.op ++ (nmd x).flatMap opS ++ [10] = P7 ++ codeT C (j + 1)) := hide_ (by rw [HTk.out]; unfold insT; simp)
            generalize P7 ++ codeT C j = Q at *
            generalize hgA : wq.heap.size = gA at *
            have HC1 := hide_ (num_c w.heap.size gx Q (j : Int) wA (by omega) (by have := HLp.out; omega) HXA HTA)
            clear hcs hel hBA hx HXA l4
            go_upto_region 20 with fail
            rw [← hwA]
            clear hwA i0 i1 i2 i3
            go_upto_region 21 with (go_at_call 30; refine HC1.out.mono ?_; rintro e wa ⟨rfl, HXa, HKa⟩)
            have KAa := hide_ (HKa.out.2 _ _ _ (by decide) (by decide) KA.out)
            have KGa := hide_ (HKa.out.2 _ _ _ (by decide) (by decide) KGA.out)
            have HLa : Hid ((Q ++ Lib.itoa (j : Int)).length ≤ 240000100) := hide_ (by rw [List.length_append]; have := HLp.out; omega)
            have HNm : Hid (Calls Tryd.prog 33 #[.int .i64 x.op] wa.drew fun e w' => e = .returned (.string ⟨(nmT x.op).toArray⟩) ∧ wa.drew = w') := hide_ (name_any x.op wa.drew)
            have hcat : ¬ 9223372036854775807 < 1 + (⟨(nmT x.op).toArray⟩ : ByteArray).size := by rw [Lib.size_eq]; simp; omega
            have HDt : Hid ((⟨#[32]⟩ ++ ⟨(nmT x.op).toArray⟩ : ByteArray).data.toList = 32 :: nmT x.op) := hide_ (by rw [cat_data]; rfl)
            have HSz : Hid ((⟨#[32]⟩ ++ ⟨(nmT x.op).toArray⟩ : ByteArray).size ≤ 1000000) := hide_ (by rw [Lib.size_eq, cat_data]; simp; omega)
            generalize (⟨(nmT x.op).toArray⟩ : ByteArray) = mn at *
            have HSS : Hid (∀ w', Below wa.heap.size wa w' → (fun w' => w'.cell? ⟨gp, 0, none⟩ = some (fnS gx) ∧ w'.cell? ⟨gA, 0, none⟩ = some (.int .i64 x.op)) w') := hide_ (fun w' hb => by have x0 := (KGa.out.later hb).cell 0; have x1 := (KAa.out.later hb).cell 0; simp [inc] at x0 x1; exact ⟨x0, x1⟩)
            clear HC1
            refine wp_region_last 5 (fun w' => w'.cell? ⟨gp, 0, none⟩ = some (fnS gx) ∧ w'.cell? ⟨gA, 0, none⟩ = some (.int .i64 x.op)) (by kernel_rfl) (HSS.out _ ((Below.refl wa.heap.size wa).drew)) (fun hHeld => ?_)
            refine wpAnyF_take [5] (by kernel_rfl) (i := 0) (v := ?vg1) rfl (by kernel_rfl) (by kernel_rfl) (by kernel_rfl) (fun _ _ _ h => h) (Or.inl ⟨by kernel_rfl, ?hyg1⟩) hHeld ?restg1
            case hyg1 => intro w' hSw; (try dsimp only at hSw); go_simp; try with_reducible rfl
            simp only [Act.put]
            refine wpAnyF_take [5, 3, 2] (by kernel_rfl) (i := 1) (v := ?vg2) rfl (by kernel_rfl) (by kernel_rfl) (by kernel_rfl) (fun _ _ _ h => h) (Or.inl ⟨by kernel_rfl, ?hyg2⟩) hHeld ?restg2
            case hyg2 => intro w' hSw; (try dsimp only at hSw); go_simp; try with_reducible rfl
            simp only [Act.put]
            refine wpAnyF_take [5, 3] (by kernel_rfl) (i := 2) (v := ?vg3) rfl (by kernel_rfl) (by kernel_rfl) (by kernel_rfl) (fun _ _ _ h => h) (Or.inl ⟨by kernel_rfl, ?hyg3⟩) hHeld ?restg3
            case hyg3 => intro w' hSw; (try dsimp only at hSw); go_simp; try with_reducible rfl
            simp only [Act.put]
            refine wpAnyF_ready (rs := [3]) (by kernel_rfl) (by simp) ?_
            refine AllReadyF.cons rfl (fun K hK => ?_) AllReadyF.nil
            go_simp
            refine HNm.out.mono ?_
            rintro e wC ⟨rfl, rfl⟩
            dsimp only
            refine hK.out _ _ (HSS.out _ ((Below.refl wa.heap.size wa).drew)) (fun hHeld => ?_)
            clear hK K
            refine wpAnyF_take [5] (by kernel_rfl) (i := 4) (v := ?vg4) rfl (by kernel_rfl) (by kernel_rfl) (by kernel_rfl) (fun _ _ _ h => h) (Or.inl ⟨by kernel_rfl, ?hyg4⟩) hHeld ?restg4
            case hyg4 => intro w' hSw; (try dsimp only at hSw); go_simp; try with_reducible rfl
            simp only [Act.put]
            refine wpAnyF_ready (rs := [5]) (by kernel_rfl) (by simp) ?_
            refine AllReadyF.last rfl (fun K hK => ?_)
            go_simp
            refine (HSay.out _ _ _ (HXa.out.later ((Below.refl _ _).drew)) (by have := HLa.out; omega) HSz.out).mono ?_
            rintro e wb ⟨rfl, HXb, HKb⟩
            dsimp only
            refine hK.out _ _ ?_
            clear hK K
            refine wpAnyF_done (by kernel_rfl) ?_ _
            clear HSS
            rw [HDt.out] at HXb
            have HKab := hide_ ((HKa.out.trans (Kb.of_below HXa.out.size ((Below.refl _ _).drew))).trans HKb.out)
            have KAb := hide_ (HKab.out.2 _ _ _ (by decide) (by decide) KA.out)
            have KGb := hide_ (HKab.out.2 _ _ _ (by decide) (by decide) KGA.out)
            have HEa := hide_ (eachP_any w.heap.size gx gp _ x wb HIn.out (by simp only [List.length_append, List.length_cons] at *; have := HLp.out; omega) HXb KGb (hide_ (HTA.out.on HKab.out.1)))
            have k0 := KAb.out.cell 0; have k1 := KAb.out.cell 1; have k2 := KAb.out.cell 2; have k3 := KAb.out.cell 3
            simp [inc] at k0 k1 k2 k3
            go_upto_region 23 with (go_at_call 26; refine HEa.out.mono ?_; rintro e wd ⟨rfl, HXd, HKd⟩)
            have HKad := hide_ (HKab.out.trans HKd.out)
            have KGd := hide_ (HKad.out.2 _ _ _ (by decide) (by decide) KGA.out)
            have g2 := KGd.out.cell 0
            simp [fnS] at g2
            have HC5 := hide_ (HSay.out wd ⟨#[10]⟩ _ HXd.out (by simp only [List.length_append, List.length_cons] at *; have := HLp.out; omega) (by decide))
            have e3 : (⟨#[10]⟩ : ByteArray).data.toList = [10] := rfl
            rw [e3, HFin.out] at HC5
            clear e3
            go_wp2_with (go_at_call 29; refine HC5.out.mono ?_; rintro e wf ⟨rfl, HXf, HKf⟩)
            go_roundw
            case rel => exact ⟨j + 1, by omega, by go_num, HXf, hide_ ((HKA.out.trans HKad.out).trans HKf.out)⟩
            case measure => simp [intOf]; omega
          · obtain rfl : j = C.length := by omega
            have HRs : Hid (prnA enc C E = P7 ++ codeT C C.length) := hide_ (by rw [HEn.out, HMP.out])
            have KFk := hide_ (HKk.out.2 _ _ _ (by decide) (by decide) KFq.out)
            obtain ⟨h1, v, h2, h3⟩ := HXk.out
            rw [← HRs.out] at h3
            obtain ⟨av, cv, hv, hcv⟩ := bt_conv h3
            subst hv
            rw [HSA.out] at hcv
            have x0 := h2.cell 0
            have fz := fun i => KFk.out.frozen i
            have g0 := KFk.out.cell 0; have g1 := KFk.out.cell 1
            simp at x0 g0 g1
            have HBk := hide_ (HB7.out.trans HKk.out.1)
            generalize (prnA enc C E).length = pl at *
            clear h2 h3 h1
            go_wp2
            refine retVF rfl rfl rfl (wr2f KFk.out _ _) ?_
            exact ⟨rfl, below_set (below_set HBk.out _ _ _ Hgs.out) _ _ _ Hgs.out⟩
  · have hfb : (fe != 0) = true := by simpa using hfe0
    have HEn : Hid (prnA enc C E = []) := hide_ (by unfold prnA; rw [if_neg (fun h => hfe0 (by rw [← HFe.out, h]))])
    have fz := fun i => KF3.out.frozen i
    have g0 := KF3.out.cell 0; have g1 := KF3.out.cell 1
    simp at g0 g1
    go_upto_region 2 with fail
    rw [← hw3]
    clear hw3
    go_wp2_with fail
    go_region
    all_goals
      go_wp2
      refine retVF rfl rfl rfl (wr2f KF3.out _ _) ?_
      exact ⟨by rw [← HSA.out, HEn.out]; rfl, below_set (below_set HB3.out.drew _ _ _ Hgs.out) _ _ _ Hgs.out⟩
end Go.Proofs.YteadmiikenpjeaaDoor
