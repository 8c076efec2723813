/- NamesRenamed: its walk. -/
import Derived.Test.YtjeafblkmipdmaaNre
import Derived.Test.YtjeafblkmipdmaaNrf
import Derived.Test.YtjeafblkmipdmaaYn
import Derived.Test.YtjeafblkmipdmaaYo
import Derived.Test.YtjeafblkmipdmaaYp
namespace Go.Proofs.Ytjeafblkmipdmaa
open Go.RowKit
set_option linter.unusedVariables false

/-- A list of numbers that was handed out. -/
def LiM (w : World) (B : Nat) (v : Value) (l : List Int) : Prop := w.ownsRow B 3 1 v l.length (cellsL .i64 l)
theorem LiM.later {w w' : World} {B : Nat} {v : Value} {l : List Int} (h : LiM w B v l) (hB : Below w.heap.size w w') : LiM w' B v l := ownS_upd h (Upd.of_below (S := fun _ => False) hB) (fun _ _ h => h)
theorem LiM.row {w : World} {B : Nat} {v : Value} {l : List Int} (h : LiM w B v l) : ∃ a c, v = .slice a l.length c ∧ Row .i64 w a l := by
  obtain ⟨a, c, e, r, _⟩ := own_open h rfl
  exact ⟨a, c, e, r⟩
theorem LiM.at {w : World} {B : Nat} {a : Option Addr} {n c : Nat} {l : List Int} (h : LiM w B (.slice a n c) l) : Row .i64 w a l := by
  obtain ⟨a', c', e, r⟩ := h.row
  injection e with e1 e2 e3
  subst e1
  exact r
theorem nOrder2 {D : List Df} {E A : Int} {o : List Nat} {ds : List Int} (h : LookTo D E A o ds) (a : Option Addr) (c n : Nat) (w : World) (hn : D.length = n) (hW : Hid (Wt D)) (r : Hid (DRow w a D)) :
    Calls Try.prog 7 #[.agg #[.slice a n c]] w fun e w' => ∃ x p, e = .returned (.tuple #[.slice x o.length p, .agg #[.int .i64 E, .int .i64 A]]) ∧ Hid (LiM w' w.heap.size (.slice x o.length p) (natI o)) ∧ Hid (Below w.heap.size w w') := by
  have h1 := nOrder_any h a c w hW r
  rw [hn] at h1
  refine h1.mono ?_
  rintro e w' ⟨x, m, p, rfl, HO, HB⟩
  have h2 : LiM w' w.heap.size (.slice x m p) (natI o) := by unfold LiM; rw [natI_len]; exact HO.out
  obtain ⟨a', c', e, -⟩ := h2.row
  rw [natI_len] at e
  injection e with e1 e2 e3
  subst e2
  exact ⟨x, p, rfl, hide_ h2, HB⟩
theorem nDepth2 {D : List Df} {E A : Int} {o : List Nat} {ds : List Int} (h : LookTo D E A o ds) (a : Option Addr) (c n : Nat) (w : World) (hn : D.length = n) (hW : Hid (Wt D)) (r : Hid (DRow w a D)) :
    Calls Try.prog 8 #[.agg #[.slice a n c]] w fun e w' => ∃ x p, e = .returned (.tuple #[.slice x ds.length p, .agg #[.int .i64 E, .int .i64 A]]) ∧ Hid (LiM w' w.heap.size (.slice x ds.length p) ds) ∧ Hid (Below w.heap.size w w') := by
  have h1 := nDepth_any h a c w hW r
  rw [hn] at h1
  refine h1.mono ?_
  rintro e w' ⟨x, m, p, rfl, HO, HB⟩
  have h2 : LiM w' w.heap.size (.slice x m p) ds := HO.out
  obtain ⟨a', c', e, -⟩ := h2.row
  injection e with e1 e2 e3
  subst e2
  exact ⟨x, p, rfl, hide_ h2, HB⟩
theorem LookTo.ck {D : List Df} {E A : Int} {o : List Nat} {ds : List Int} (h : LookTo D E A o ds) (hE : E ≠ 62) : (ckP D).2.2 = 0 := by
  unfold LookTo at h
  by_cases h1 : (ckP D).2.2 = 0
  · exact h1
  · rw [if_neg h1] at h
    exact absurd h.1 hE
theorem LookTo.lens {D : List Df} {E A : Int} {o : List Nat} {ds : List Int} (h : LookTo D E A o ds) (hl : D.length ≤ 600000) : o.length ≤ 600000 ∧ ds.length ≤ 600000 := by
  unfold LookTo at h
  split at h
  · split at h
    · rcases h with ⟨_, _, _, _, _, _, _, rfl, rfl⟩ | ⟨_, p, qs, _, e2, e3, ⟨_, _, _, _, _, _, _, rfl, rfl⟩ | ⟨_, _, _, rfl, rfl⟩⟩
      · simp
      · simp
      · have := e3.1; omega
    · obtain ⟨_, _, rfl, rfl⟩ := h; simp
  · obtain ⟨_, _, rfl, rfl⟩ := h; simp
set_option maxRecDepth 100000 in
set_option maxHeartbeats 16000000 in
theorem renamed_any (a : Option Addr) (c n : Nat) (D : List Df) (w : World) (hn : D.length = n) (hS : Hid (Wt D)) (hN : Hid (sumN D ≤ 600000)) (hc : n ≤ c) (hR : Hid (DRow w a D)) :
    Calls Try.prog 3 #[.agg #[.slice a n c]] w fun e w' => e = .returned (.bool true) ∧ Below w.heap.size w w' := by
  have hnl : n ≤ 600000 := by rw [← hn]; exact Nat.le_trans (sumN_len D) hN.out
  obtain ⟨wA, hwA⟩ : ∃ wA, wA = w.alloc (.cells #[.slice a n c] 24) := ⟨_, rfl⟩
  have KA : Blk wA w.heap.size 24 [.slice a n c] := by rw [hwA]; exact Blk.newA w #[.slice a n c] 24
  have hBA : Below w.heap.size w wA := by rw [hwA]; exact (Below.refl _ _).alloc (Nat.le_refl _) _
  have HKA := hide_ KA
  have HBA := hide_ hBA
  have HAw := hide_ (nFirst_any wA)
  have Hn := hide_ hn
  clear KA hBA hn
  obtain ⟨E, A, o, ds, hL⟩ := lookTo_ex D
  have HL := hide_ hL
  have hLl := hL.lens (by rw [Hn.out]; exact hnl)
  have hol := hLl.1
  have hdl := hLl.2
  clear hL hLl
  go_enter Try.func3, Try.ntmps3
  go_upto_region 1 with fail
  rw [← hwA]
  clear hwA
  go_wp2_with fail
  refine HAw.out.mono ?_; rintro e w1 ⟨rfl, hB1⟩
  have HB1 := hide_ (below_to HBA.out hB1)
  have HK1 := hide_ (HKA.out.later hB1)
  clear hB1 HKA HBA HAw
  have x0 := HK1.out.cell 0
  simp at x0
  have HCk := hide_ (nCheck_any HL.out a c w1 hS (hide_ (hR.out.later HB1.out)))
  rw [Hn.out] at HCk
  go_wp2_with fail
  refine HCk.out.mono ?_; rintro e w2 ⟨rfl, HB2⟩
  obtain ⟨w3, hw3⟩ : ∃ wx, wx = w2.alloc (.cells #[.int .i64 E, .int .i64 A] 28) := ⟨_, rfl⟩
  have hb3 : Below w2.heap.size w2 w3 := by rw [hw3]; exact (Below.refl _ _).alloc (Nat.le_refl _) _
  have HF3 : Hid (Blk w3 w2.heap.size 28 [.int .i64 E, .int .i64 A]) := hide_ (by rw [hw3]; exact Blk.newA w2 #[.int .i64 E, .int .i64 A] 28)
  have hb13 := below_to HB2.out hb3
  have HB3 := hide_ (below_to HB1.out hb13)
  have HK3 := hide_ (HK1.out.later hb13)
  clear hb3 hb13 HB2 HB1 HK1 HCk x0
  go_upto_region 4 with fail
  rw [← hw3]
  clear hw3
  have x0 := HK3.out.cell 0
  simp at x0
  have HTu := hide_ (turned_any a c n D w3 Hn.out hS hN hc (hide_ (hR.out.later HB3.out)))
  go_wp2_with fail
  refine HTu.out.mono ?_; rintro e w4 ⟨vd, vs, fr, L, M, rfl, HS4, HIn, HLm, HB4⟩
  obtain ⟨da, dc, evd, hdc, hDr⟩ : ∃ da dc, vd = .slice da n dc ∧ n ≤ dc ∧ DRow w4 da (D.map (tnD L M)) := by
    obtain ⟨a', c', e, h1, h2⟩ := HS4.out.row
    rw [List.length_map, Hn.out] at e h1
    exact ⟨a', c', e, h1, h2⟩
  subst evd
  have HDr := hide_ hDr
  obtain ⟨w5, hw5⟩ : ∃ wx, wx = w4.alloc (.cells #[.slice da n dc] 24) := ⟨_, rfl⟩
  have hb5 : Below w4.heap.size w4 w5 := by rw [hw5]; exact (Below.refl _ _).alloc (Nat.le_refl _) _
  have HQ5 : Hid (Blk w5 w4.heap.size 24 [.slice da n dc]) := hide_ (by rw [hw5]; exact Blk.newA w4 #[.slice da n dc] 24)
  have hb35 := below_to HB4.out hb5
  have HB5 := hide_ (below_to HB3.out hb35)
  have HK5 := hide_ (HK3.out.later hb35)
  have HF5 := hide_ (HF3.out.later hb35)
  have HD5 := hide_ (HDr.out.later hb5)
  clear hb5 hb35 HB4 HB3 HK3 HF3 HTu x0 hDr HDr HS4
  go_upto_region 5 with fail
  rw [← hw5]
  clear hw5
  have f0 := HF5.out.cell 0; have f1 := HF5.out.cell 1
  simp at f0 f1
  cases fr with
  | false =>
    go_wp2
    go_ret
    exact ⟨rfl, HB5.out⟩
  | true =>
  by_cases h62 : E = 62
  · go_wp2
    go_ret
    exact ⟨rfl, HB5.out⟩
  have h62d : decide (E = 62) = false := decide_eq_false h62
  have HL2 : Hid (LookTo (D.map (tnD L M)) E A o ds) := hide_ (turned_look HIn.out HLm.out.1 HLm.out.2 HL.out (HL.out.ck h62))
  have Hn2 : Hid ((D.map (tnD L M)).length = n) := hide_ (by rw [List.length_map]; exact Hn.out)
  have HS2 : Hid (Wt (D.map (tnD L M))) := hide_ ⟨by rw [List.length_map]; exact hS.out.1, fun d' hd' => by
    obtain ⟨d, hd, rfl⟩ := List.mem_map.1 hd'
    have := hS.out.2 d hd
    simpa [tnD] using this⟩
  generalize D.map (tnD L M) = D2 at *
  clear HIn HLm
  have x0 := HK5.out.cell 0
  simp at x0
  have HO1 := hide_ (nOrder2 HL.out a c n w5 Hn.out hS (hide_ (hR.out.later HB5.out)))
  go_wp2_with fail
  refine HO1.out.mono ?_; rintro e w6 ⟨xa, pa, rfl, HLa, HB6⟩
  clear f0 f1 h62d HO1 x0
  obtain ⟨w7, hwx⟩ : ∃ wx, wx = w6.alloc (.cells #[.int .i64 E, .int .i64 A] 28) := ⟨_, rfl⟩
  have hbx : Below w6.heap.size w6 w7 := by rw [hwx]; exact (Below.refl _ _).alloc (Nat.le_refl _) _
  have HF7 : Hid (Blk w7 w6.heap.size 28 [.int .i64 E, .int .i64 A]) := hide_ (by rw [hwx]; exact Blk.newA w6 #[.int .i64 E, .int .i64 A] 28)
  have hb := below_to HB6.out hbx
  have HD7 := hide_ (HD5.out.later hb)
  have HK7 := hide_ (HK5.out.later hb)
  have HQ7 := hide_ (HQ5.out.later hb)
  have HFa := hide_ (HF5.out.later hb)
  have HB7 := hide_ (below_to HB5.out hb)
  have HLa7 := hide_ (HLa.out.later hbx)
  clear hb hbx HB6 HD5 HK5 HQ5 HF5 HB5 HLa
  go_upto_region 8 with fail
  rw [← hwx]
  clear hwx
  have x0 := HK7.out.cell 0
  simp at x0
  have HO1 := hide_ (nDepth2 HL.out a c n w7 Hn.out hS (hide_ (hR.out.later HB7.out)))
  go_wp2_with fail
  refine HO1.out.mono ?_; rintro e w8 ⟨xb, pb, rfl, HLb, HB8⟩
  clear HO1 x0
  obtain ⟨w9, hwx⟩ : ∃ wx, wx = w8.alloc (.cells #[.int .i64 E, .int .i64 A] 28) := ⟨_, rfl⟩
  have hbx : Below w8.heap.size w8 w9 := by rw [hwx]; exact (Below.refl _ _).alloc (Nat.le_refl _) _
  have HF9 : Hid (Blk w9 w8.heap.size 28 [.int .i64 E, .int .i64 A]) := hide_ (by rw [hwx]; exact Blk.newA w8 #[.int .i64 E, .int .i64 A] 28)
  have hb := below_to HB8.out hbx
  have HD9 := hide_ (HD7.out.later hb)
  have HQ9 := hide_ (HQ7.out.later hb)
  have HFb := hide_ (HFa.out.later hb)
  have HB9 := hide_ (below_to HB7.out hb)
  have HLa9 := hide_ (HLa7.out.later hb)
  have HLb9 := hide_ (HLb.out.later hbx)
  clear hb hbx HB8 HD7 HQ7 HFa HB7 HLa7 HLb HK7 HF7 HF9
  go_upto_region 9 with fail
  rw [← hwx]
  clear hwx
  have x0 := HQ9.out.cell 0
  simp at x0
  have HO1 := hide_ (nOrder2 HL2.out da dc n w9 Hn2.out HS2 HD9)
  go_wp2_with fail
  refine HO1.out.mono ?_; rintro e w10 ⟨xc, pc, rfl, HLc, HB10⟩
  clear HO1 x0
  obtain ⟨w11, hwx⟩ : ∃ wx, wx = w10.alloc (.cells #[.int .i64 E, .int .i64 A] 28) := ⟨_, rfl⟩
  have hbx : Below w10.heap.size w10 w11 := by rw [hwx]; exact (Below.refl _ _).alloc (Nat.le_refl _) _
  have HF11 : Hid (Blk w11 w10.heap.size 28 [.int .i64 E, .int .i64 A]) := hide_ (by rw [hwx]; exact Blk.newA w10 #[.int .i64 E, .int .i64 A] 28)
  have hb := below_to HB10.out hbx
  have HD11 := hide_ (HD9.out.later hb)
  have HQ11 := hide_ (HQ9.out.later hb)
  have HFc := hide_ (HFb.out.later hb)
  have HB11 := hide_ (below_to HB9.out hb)
  have HLa11 := hide_ (HLa9.out.later hb)
  have HLb11 := hide_ (HLb9.out.later hb)
  have HLc11 := hide_ (HLc.out.later hbx)
  clear hb hbx HB10 HD9 HQ9 HFb HB9 HLa9 HLb9 HLc
  go_upto_region 10 with fail
  rw [← hwx]
  clear hwx
  have x0 := HQ11.out.cell 0
  simp at x0
  have HO1 := hide_ (nDepth2 HL2.out da dc n w11 Hn2.out HS2 HD11)
  go_wp2_with fail
  refine HO1.out.mono ?_; rintro e w12 ⟨xd, pd, rfl, HLd, HB12⟩
  clear HO1 x0
  obtain ⟨w13, hwx⟩ : ∃ wx, wx = w12.alloc (.cells #[.int .i64 E, .int .i64 A] 28) := ⟨_, rfl⟩
  have hbx : Below w12.heap.size w12 w13 := by rw [hwx]; exact (Below.refl _ _).alloc (Nat.le_refl _) _
  have HF13 : Hid (Blk w13 w12.heap.size 28 [.int .i64 E, .int .i64 A]) := hide_ (by rw [hwx]; exact Blk.newA w12 #[.int .i64 E, .int .i64 A] 28)
  have hb := below_to HB12.out hbx
  have HD13 := hide_ (HD11.out.later hb)
  have HQ13 := hide_ (HQ11.out.later hb)
  have HFd := hide_ (HFc.out.later hb)
  have HFe := hide_ (HF11.out.later hb)
  have HB13 := hide_ (below_to HB11.out hb)
  have HLa13 := hide_ (HLa11.out.later hb)
  have HLb13 := hide_ (HLb11.out.later hb)
  have HLc13 := hide_ (HLc11.out.later hb)
  have HLd13 := hide_ (HLd.out.later hbx)
  clear hb hbx HB12 HD11 HQ11 HFc HF11 HB11 HLa11 HLb11 HLc11 HLd
  go_upto_region 11 with fail
  rw [← hwx]
  clear hwx
  have HSS : Hid (∀ w', Below w13.heap.size w13 w' → (fun w' => w'.cell? ⟨w4.heap.size, 0, none⟩ = some (.slice da n dc) ∧ w'.cell? ⟨w2.heap.size, 0, none⟩ = some (.int .i64 E) ∧ w'.cell? ⟨w2.heap.size, 1, none⟩ = some (.int .i64 A) ∧ w'.cell? ⟨w10.heap.size, 0, none⟩ = some (.int .i64 E) ∧ w'.cell? ⟨w10.heap.size, 1, none⟩ = some (.int .i64 A) ∧ w'.cell? ⟨w12.heap.size, 0, none⟩ = some (.int .i64 E) ∧ w'.cell? ⟨w12.heap.size, 1, none⟩ = some (.int .i64 A)) w') := hide_ (fun w' hb => by
    have y0 := (HQ13.out.later hb).cell 0; have y1 := (HFd.out.later hb).cell 0; have y2 := (HFd.out.later hb).cell 1
    have y3 := (HFe.out.later hb).cell 0; have y4 := (HFe.out.later hb).cell 1; have y5 := (HF13.out.later hb).cell 0; have y6 := (HF13.out.later hb).cell 1
    simp at y0 y1 y2 y3 y4 y5 y6
    exact ⟨y0, y1, y2, y3, y4, y5, y6⟩)
  have HCk : Hid (Calls Try.prog 5 #[.agg #[.slice da n dc]] w13.drew fun e w' => e = .returned (.agg #[.int .i64 E, .int .i64 A]) ∧ Hid (Below w13.drew.heap.size w13.drew w')) := hide_ (by
    have h1 := nCheck_any HL2.out da dc w13.drew HS2 (hide_ (HD13.out.later ((Below.refl w13.heap.size w13).drew)))
    rw [Hn2.out] at h1
    exact h1)
  have HI1 : Hid (∀ w', Below w13.heap.size w13 w' → Calls Try.prog 9 #[.slice xa o.length pa, .slice xc o.length pc] w' fun e w'' => e = .returned (.bool true) ∧ Below w'.heap.size w' w'') := hide_ (fun w' hb => by
    have h1 := ints_any xa xc pa pc (natI o) (natI o) w' (by rw [natI_len]; omega) (by rw [natI_len]; omega) (hide_ (HLa13.out.later hb).at) (hide_ (HLc13.out.later hb).at)
    rw [natI_len, decide_eq_true rfl] at h1
    exact h1)
  have HI2 : Hid (∀ w', Below w13.heap.size w13 w' → Calls Try.prog 9 #[.slice xb ds.length pb, .slice xd ds.length pd] w' fun e w'' => e = .returned (.bool true) ∧ Below w'.heap.size w' w'') := hide_ (fun w' hb => by
    have h1 := ints_any xb xd pb pd ds ds w' (by omega) (by omega) (hide_ (HLb13.out.later hb).at) (hide_ (HLd13.out.later hb).at)
    rw [decide_eq_true rfl] at h1
    exact h1)
  clear HLa13 HLb13 HLc13 HLd13 HQ13 HFd HFe HF13 HD13
  refine wp_region_last 24 (fun w' => w'.cell? ⟨w4.heap.size, 0, none⟩ = some (.slice da n dc) ∧ w'.cell? ⟨w2.heap.size, 0, none⟩ = some (.int .i64 E) ∧ w'.cell? ⟨w2.heap.size, 1, none⟩ = some (.int .i64 A) ∧ w'.cell? ⟨w10.heap.size, 0, none⟩ = some (.int .i64 E) ∧ w'.cell? ⟨w10.heap.size, 1, none⟩ = some (.int .i64 A) ∧ w'.cell? ⟨w12.heap.size, 0, none⟩ = some (.int .i64 E) ∧ w'.cell? ⟨w12.heap.size, 1, none⟩ = some (.int .i64 A)) (by kernel_rfl) (HSS.out _ ((Below.refl w13.heap.size w13).drew)) (fun hHeld => ?_)
  refine wpAnyF_take [24] (by kernel_rfl) (i := 0) (v := ?vr1) rfl (by kernel_rfl) (by kernel_rfl) (by kernel_rfl) (fun _ _ _ h => h) (Or.inl ⟨by kernel_rfl, ?hyr1⟩) hHeld ?restr1
  case hyr1 => intro w' hSw; (try dsimp only at hSw); go_simp; try with_reducible rfl
  simp only [Act.put]
  refine wpAnyF_take [24] (by kernel_rfl) (i := 2) (v := ?vr2) rfl (by kernel_rfl) (by kernel_rfl) (by kernel_rfl) (fun _ _ _ h => h) (Or.inl ⟨by kernel_rfl, ?hyr2⟩) hHeld ?restr2
  case hyr2 => intro w' hSw; (try dsimp only at hSw); go_simp; try with_reducible rfl
  simp only [Act.put]
  refine wpAnyF_ready (rs := [1]) (by kernel_rfl) (by simp) ?_
  refine AllReadyF.cons rfl (fun K hK => ?_) AllReadyF.nil
  go_simp
  refine HCk.out.mono ?_
  rintro e wa ⟨rfl, HBg1⟩
  dsimp only
  refine hK.out _ _ (HSS.out _ (below_to ((Below.refl w13.heap.size w13).drew) HBg1.out)) (fun hHeld => ?_)
  clear hK K
  refine wpAnyF_take [24] (by kernel_rfl) (i := 3) (v := ?vr3) rfl (by kernel_rfl) (by kernel_rfl) (by kernel_rfl) (fun _ _ _ h => h) (Or.inl ⟨by kernel_rfl, ?hyr3⟩) hHeld ?restr3
  case hyr3 => intro w' hSw; (try dsimp only at hSw); go_simp; try with_reducible rfl
  simp only [Act.put]
  refine wpAnyF_take [24] (by kernel_rfl) (i := 4) (v := ?vr4) rfl (by kernel_rfl) (by kernel_rfl) (by kernel_rfl) (fun _ _ _ h => h) (Or.inl ⟨by kernel_rfl, ?hyr4⟩) hHeld ?restr4
  case hyr4 => intro w' hSw; (try dsimp only at hSw); go_simp; try with_reducible rfl
  simp only [Act.put]
  refine wpAnyF_take [24] (by kernel_rfl) (i := 5) (v := ?vr5) rfl (by kernel_rfl) (by kernel_rfl) (by kernel_rfl) (fun _ _ _ h => h) (Or.inl ⟨by kernel_rfl, ?hyr5⟩) hHeld ?restr5
  case hyr5 => intro w' hSw; (try dsimp only at hSw); go_simp; try with_reducible rfl
  simp only [Act.put]
  refine wpAnyF_take [24] (by kernel_rfl) (i := 6) (v := ?vr6) rfl (by kernel_rfl) (by kernel_rfl) (by kernel_rfl) (fun _ _ _ h => h) (Or.inl ⟨by kernel_rfl, ?hyr6⟩) hHeld ?restr6
  case hyr6 => intro w' hSw; (try dsimp only at hSw); go_simp; try with_reducible rfl
  simp only [Act.put]
  refine wpAnyF_take [24] (by kernel_rfl) (i := 7) (v := ?vr7) rfl (by kernel_rfl) (by kernel_rfl) (by kernel_rfl) (fun _ _ _ h => h) (Or.inl ⟨by kernel_rfl, ?hyr7⟩) hHeld ?restr7
  case hyr7 => intro w' hSw; (try dsimp only at hSw); go_simp; try with_reducible rfl
  simp only [Act.put]
  refine wpAnyF_take [24] (by kernel_rfl) (i := 8) (v := ?vr8) rfl (by kernel_rfl) (by kernel_rfl) (by kernel_rfl) (fun _ _ _ h => h) (Or.inl ⟨by kernel_rfl, ?hyr8⟩) hHeld ?restr8
  case hyr8 => intro w' hSw; (try dsimp only at hSw); go_simp; try with_reducible rfl
  simp only [Act.put]
  refine wpAnyF_take [24] (by kernel_rfl) (i := 9) (v := ?vr9) rfl (by kernel_rfl) (by kernel_rfl) (by kernel_rfl) (fun _ _ _ h => h) (Or.inl ⟨by kernel_rfl, ?hyr9⟩) hHeld ?restr9
  case hyr9 => intro w' hSw; (try dsimp only at hSw); go_simp; try with_reducible rfl
  simp only [Act.put]
  refine wpAnyF_take [24] (by kernel_rfl) (i := 10) (v := ?vr10) rfl (by kernel_rfl) (by kernel_rfl) (by kernel_rfl) (fun _ _ _ h => h) (Or.inl ⟨by kernel_rfl, ?hyr10⟩) hHeld ?restr10
  case hyr10 => intro w' hSw; (try dsimp only at hSw); go_simp; try with_reducible rfl
  simp only [Act.put]
  refine wpAnyF_take [24] (by kernel_rfl) (i := 11) (v := ?vr11) rfl (by kernel_rfl) (by kernel_rfl) (by kernel_rfl) (fun _ _ _ h => h) (Or.inl ⟨by kernel_rfl, ?hyr11⟩) hHeld ?restr11
  case hyr11 => intro w' hSw; (try dsimp only at hSw); go_simp; try with_reducible rfl
  simp only [Act.put]
  refine wpAnyF_take [24] (by kernel_rfl) (i := 12) (v := ?vr12) rfl (by kernel_rfl) (by kernel_rfl) (by kernel_rfl) (fun _ _ _ h => h) (Or.inl ⟨by kernel_rfl, ?hyr12⟩) hHeld ?restr12
  case hyr12 => intro w' hSw; (try dsimp only at hSw); go_simp; try with_reducible rfl
  simp only [Act.put]
  refine wpAnyF_take [24] (by kernel_rfl) (i := 13) (v := ?vr13) rfl (by kernel_rfl) (by kernel_rfl) (by kernel_rfl) (fun _ _ _ h => h) (Or.inl ⟨by kernel_rfl, ?hyr13⟩) hHeld ?restr13
  case hyr13 => intro w' hSw; (try dsimp only at hSw); go_simp; try with_reducible rfl
  simp only [Act.put]
  refine wpAnyF_take [24] (by kernel_rfl) (i := 14) (v := ?vr14) rfl (by kernel_rfl) (by kernel_rfl) (by kernel_rfl) (fun _ _ _ h => h) (Or.inl ⟨by kernel_rfl, ?hyr14⟩) hHeld ?restr14
  case hyr14 => intro w' hSw; (try dsimp only at hSw); go_simp; try with_reducible rfl
  simp only [Act.put]
  refine wpAnyF_take [24] (by kernel_rfl) (i := 15) (v := ?vr15) rfl (by kernel_rfl) (by kernel_rfl) (by kernel_rfl) (fun _ _ _ h => h) (Or.inl ⟨by kernel_rfl, ?hyr15⟩) hHeld ?restr15
  case hyr15 => intro w' hSw; (try dsimp only at hSw); go_simp; try with_reducible rfl
  simp only [Act.put]
  refine wpAnyF_take [24] (by kernel_rfl) (i := 16) (v := ?vr16) rfl (by kernel_rfl) (by kernel_rfl) (by kernel_rfl) (fun _ _ _ h => h) (Or.inl ⟨by kernel_rfl, ?hyr16⟩) hHeld ?restr16
  case hyr16 => intro w' hSw; (try dsimp only at hSw); go_simp; try with_reducible rfl
  simp only [Act.put]
  refine wpAnyF_ready (rs := [17]) (by kernel_rfl) (by simp) ?_
  refine AllReadyF.cons rfl (fun K hK => ?_) AllReadyF.nil
  go_simp
  refine (HI1.out _ (below_to ((Below.refl w13.heap.size w13).drew) HBg1.out)).mono ?_
  rintro e wb ⟨rfl, hBg⟩
  dsimp only
  have HBg2 := hide_ hBg
  clear hBg
  refine hK.out _ _ (HSS.out _ (below_to (below_to ((Below.refl w13.heap.size w13).drew) HBg1.out) HBg2.out)) (fun hHeld => ?_)
  clear hK K
  refine wpAnyF_take [24] (by kernel_rfl) (i := 18) (v := ?vr17) rfl (by kernel_rfl) (by kernel_rfl) (by kernel_rfl) (fun _ _ _ h => h) (Or.inl ⟨by kernel_rfl, ?hyr17⟩) hHeld ?restr17
  case hyr17 => intro w' hSw; (try dsimp only at hSw); go_simp; try with_reducible rfl
  simp only [Act.put]
  refine wpAnyF_take [24] (by kernel_rfl) (i := 19) (v := ?vr18) rfl (by kernel_rfl) (by kernel_rfl) (by kernel_rfl) (fun _ _ _ h => h) (Or.inl ⟨by kernel_rfl, ?hyr18⟩) hHeld ?restr18
  case hyr18 => intro w' hSw; (try dsimp only at hSw); go_simp; try with_reducible rfl
  simp only [Act.put]
  refine wpAnyF_take [24] (by kernel_rfl) (i := 20) (v := ?vr19) rfl (by kernel_rfl) (by kernel_rfl) (by kernel_rfl) (fun _ _ _ h => h) (Or.inl ⟨by kernel_rfl, ?hyr19⟩) hHeld ?restr19
  case hyr19 => intro w' hSw; (try dsimp only at hSw); go_simp; try with_reducible rfl
  simp only [Act.put]
  refine wpAnyF_take [24] (by kernel_rfl) (i := 21) (v := ?vr20) rfl (by kernel_rfl) (by kernel_rfl) (by kernel_rfl) (fun _ _ _ h => h) (Or.inl ⟨by kernel_rfl, ?hyr20⟩) hHeld ?restr20
  case hyr20 => intro w' hSw; (try dsimp only at hSw); go_simp; try with_reducible rfl
  simp only [Act.put]
  refine wpAnyF_ready (rs := [22]) (by kernel_rfl) (by simp) ?_
  refine AllReadyF.cons rfl (fun K hK => ?_) AllReadyF.nil
  go_simp
  refine (HI2.out _ (below_to (below_to ((Below.refl w13.heap.size w13).drew) HBg1.out) HBg2.out)).mono ?_
  rintro e wc ⟨rfl, hBg⟩
  dsimp only
  have HBg3 := hide_ hBg
  clear hBg
  refine hK.out _ _ (HSS.out _ (below_to (below_to (below_to ((Below.refl w13.heap.size w13).drew) HBg1.out) HBg2.out) HBg3.out)) (fun hHeld => ?_)
  clear hK K
  refine wpAnyF_take [24] (by kernel_rfl) (i := 23) (v := ?vr21) rfl (by kernel_rfl) (by kernel_rfl) (by kernel_rfl) (fun _ _ _ h => h) (Or.inl ⟨by kernel_rfl, ?hyr21⟩) hHeld ?restr21
  case hyr21 => intro w' hSw; (try dsimp only at hSw); go_simp; try with_reducible rfl
  simp only [Act.put]
  refine wpAnyF_ready (rs := [24]) (by kernel_rfl) (by simp) ?_
  refine AllReadyF.last rfl (fun K hK => ?_)
  go_simp
  refine hK.out _ _ ?_
  clear hK K
  refine wpAnyF_done (by kernel_rfl) ?_ _
  go_wp2_with fail
  go_ret
  exact ⟨rfl, below_to HB13.out (below_to (below_to (below_to ((Below.refl w13.heap.size w13).drew) HBg1.out) HBg2.out) HBg3.out)⟩
end Go.Proofs.Ytjeafblkmipdmaa
