import Derived.Test.YtiojpohmgjdgfaaPart15
import Derived.Test.YtiojpohmgjdgfaaPart01

/- Code: Lend, Kept; the law's cut. -/
namespace Go.Proofs.Ytiojpohmgjdgfaa
open Go.RowKit
set_option linter.unusedVariables false

def mkI : In := ⟨-901, 0, 0, 0⟩
theorem leC (w : World) (a : Option Addr) (c : Nat) (C : List In) (hC : IRow w a C) (hn : a = none → c = 0) (hl : C.length ≤ 1000000) :
    ∃ v1 w1 g2 c2 w2, (Builtin.append_ #[22, 22] 22 #[.slice none 0 0, .slice a C.length c]).run Try.prog w = .ok v1 w1 ∧
      (Builtin.append_ #[22, 22] 22 #[v1, .slice (some ⟨w1.heap.size, 0, none⟩) 1 1]).run Try.prog (w1.alloc (.cells #[.int .i64 (-901), .int .i64 0, .int .i64 0, .int .i64 0] 37)) = .ok (.slice (some ⟨g2, 0, none⟩) (C.length + 1) c2) w2 ∧
      COwn w2 w.heap.size (.slice (some ⟨g2, 0, none⟩) (C.length + 1) c2) (C ++ [mkI]) ∧ Below w.heap.size w w2 ∧ C.length + 1 ≤ c2 := by
  obtain ⟨v1, w1, h1, h2, h3⟩ := run_copyG (P := Try.prog) inc_len inc_one Try.underlying22 infoIn rfl (by decide) w a C.length c C rfl hC hn (by unfold maxLen; omega) (by omega)
  have h2r : COwn w1 w.heap.size v1 C := h2
  obtain ⟨g, cap, w2, k1, k2, k3, k4⟩ := h2r.push mkI (by omega) h3.size
  refine ⟨v1, w1, g, cap, w2, h1, k1, k2, h3.trans (k3.below _ h3.size (fun k hk => (World.ownsRow.lt h2r k hk).1)), ?_⟩
  obtain ⟨a', c', e, hc, -, -⟩ := k2.row
  injection e with _ _ e
  rw [e]
  simpa using hc
theorem leE (w : World) (a : Option Addr) (c : Nat) (E : List Int) (hE : Row .i64 w a E) (hn : a = none → c = 0) (hl : E.length ≤ 1000000) :
    ∃ v1 w1 g2 c2 w2, (Builtin.append_ #[23, 23] 23 #[.slice none 0 0, .slice a E.length c]).run Try.prog w = .ok v1 w1 ∧
      (Builtin.append_ #[23, 23] 23 #[v1, .slice (some ⟨w1.heap.size, 0, none⟩) 1 1]).run Try.prog (w1.alloc (.cells #[.int .i64 (-902)] 3)) = .ok (.slice (some ⟨g2, 0, none⟩) (E.length + 1) c2) w2 ∧
      IOwn w2 w.heap.size (.slice (some ⟨g2, 0, none⟩) (E.length + 1) c2) (E ++ [-902]) ∧ Below w.heap.size w w2 ∧ E.length + 1 ≤ c2 := by
  obtain ⟨v1, w1, h1, h2, h3⟩ := run_copy elI w 23 w.heap.size a E.length c E rfl hE hn (by unfold maxLen; omega) (by omega) (Nat.le_refl _)
  have h2r : IOwn w1 w.heap.size v1 E := h2
  have hb1 : Below w.heap.size w w1 := (Below.refl _ w).grown h3 (Nat.le_refl _) (fun k hk => by cases hk)
  obtain ⟨g, cap, w2, k1, k2, k3, k4⟩ := h2r.push (-902) (by omega) hb1.size
  refine ⟨v1, w1, g, cap, w2, h1, k1, k2, hb1.trans (k3.below _ hb1.size (fun k hk => (World.ownsRow.lt h2r k hk).1)), ?_⟩
  obtain ⟨a', c', e, -, -, hc⟩ := k2.row
  injection e with _ _ e
  rw [e]
  simpa using hc
/-- A program that is lent: its lists, with a mark behind each. -/
structure LnP (w : World) (B : Nat) (gC cC gE cE : Nat) (C : List In) (E : List Int) : Prop where
  c : COwn w B (.slice (some ⟨gC, 0, none⟩) (C.length + 1) cC) (C ++ [mkI])
  e : IOwn w B (.slice (some ⟨gE, 0, none⟩) (E.length + 1) cE) (E ++ [-902])
  cc : C.length + 1 ≤ cC
  ce : E.length + 1 ≤ cE
section
variable {w w' : World} {B gC cC gE cE : Nat} {C : List In} {E : List Int}
theorem LnP.later (h : LnP w B gC cC gE cE C E) (hB : Below w.heap.size w w') : LnP w' B gC cC gE cE C E := ⟨h.c.later hB, h.e.later hB, h.cc, h.ce⟩
theorem LnP.upd (h : LnP w B gC cC gE cE C E) {S : Nat → Prop} (hu : Upd S w w') (h1 : ¬ S gC) (h2 : ¬ S gE) : LnP w' B gC cC gE cE C E :=
  ⟨ownS_upd h.c hu (fun k hk hS => by have := own_is hk; subst this; exact h1 hS), h.e.upd hu (fun k hk hS => by have := own_is hk; subst this; exact h2 hS), h.cc, h.ce⟩
theorem LnP.rowC (h : LnP w B gC cC gE cE C E) : IRow w (some ⟨gC, 0, none⟩) C := by
  obtain ⟨a, c, e, -, -, hr⟩ := h.c.row
  injection e with e _ _
  subst e
  have := hr.take C.length
  rw [List.take_left] at this
  exact this
theorem LnP.rowE (h : LnP w B gC cC gE cE C E) : Row .i64 w (some ⟨gE, 0, none⟩) E := by
  obtain ⟨a, c, e, hr, -, -⟩ := h.e.row
  injection e with e _ _
  subst e
  rcases hr with ⟨h1, h2⟩ | ⟨x, hx, hc⟩
  · cases h1
  · refine .inr ⟨x, hx, fun i hi => ?_⟩
    have := hc i (by rw [List.length_append]; omega)
    rw [this]
    simp [List.getD, List.getElem?_append_left hi]
theorem LnP.markC (h : LnP w B gC cC gE cE C E) : w.cell? ⟨gC, C.length * 4, none⟩ = some (.int .i64 (-901)) := by
  obtain ⟨a, c, e, -, -, hr⟩ := h.c.row
  injection e with e _ _
  subst e
  have := (IRow.at (i := C.length) (x := mkI) hr (by rw [List.getElem?_append_right (Nat.le_refl _)]; simp)).1
  simpa [mkI] using this
theorem LnP.markE (h : LnP w B gC cC gE cE C E) : w.cell? ⟨gE, E.length, none⟩ = some (.int .i64 (-902)) := by
  obtain ⟨a, c, e, hr, -, -⟩ := h.e.row
  injection e with e _ _
  subst e
  obtain ⟨b, o, e1, -, hc⟩ := hr.open (by rw [List.length_append]; simp)
  injection e1 with e1
  injection e1 with e1 e2 _
  subst e1 e2
  have := hc E.length (by rw [List.length_append]; simp)
  rw [Nat.zero_add] at this
  rw [this]
  simp [List.getD]
end
/-- What Lend answers. -/
def LeTo (enc : Bool) (C : List In) (E : List Int) (w : World) (e : Ending) (w' : World) : Prop := ∃ gC cC gE cE, e = .returned (.agg #[.bool enc, .slice (some ⟨gC, 0, none⟩) C.length cC, .slice (some ⟨gE, 0, none⟩) E.length cE]) ∧ Hid (LnP w' w.heap.size gC cC gE cE C E) ∧ Hid (Below w.heap.size w w')
set_option maxRecDepth 100000 in
set_option maxHeartbeats 8000000 in
theorem lend_any (enc : Bool) (ac ae : Option Addr) (cc ce : Nat) (C : List In) (E : List Int) (w : World) (hCl : C.length ≤ 1000000) (hEl : E.length ≤ 1000000) (hcn : ac = none → cc = 0) (hen : ae = none → ce = 0) (hr : Hid (IRow w ac C)) (he : Hid (Row .i64 w ae E)) :
    Calls Try.prog 14 #[.agg #[.bool enc, .slice ac C.length cc, .slice ae E.length ce]] w fun e w' => LeTo enc C E w e w' := by
  have hB := below2 w (.cells #[.bool enc, .slice ac C.length cc, .slice ae E.length ce] 25) (.cells #[.bool false, .slice none 0 0, .slice none 0 0] 25)
  obtain ⟨k1, k2⟩ := blk2 w #[.bool enc, .slice ac C.length cc, .slice ae E.length ce] #[.bool false, .slice none 0 0, .slice none 0 0] 25 25
  obtain ⟨w0, hw0⟩ : ∃ wx, wx = (w.alloc (.cells #[.bool enc, .slice ac C.length cc, .slice ae E.length ce] 25)).alloc (.cells #[.bool false, .slice none 0 0, .slice none 0 0] 25) := ⟨_, rfl⟩
  rw [← hw0] at hB k1 k2
  have HB0 := hide_ hB
  obtain ⟨v1, w1, gC, cC, w2, hr1, hr2, hC2, hb2, hcC⟩ := leC w0 ac cc C (hr.out.later hB) hcn hCl
  obtain ⟨v3, w3, gE, cE, w4, hr3, hr4, hE4, hb4, hcE⟩ := leE w2 ae ce E ((he.out.later hB).later hb2) hen hEl
  have K1 := hide_ ((k1.later hb2).later hb4)
  have K2 := hide_ ((k2.later hb2).later hb4)
  have q1 := k1.cell 1
  have q2 := (k1.later hb2).cell 2
  simp at q1 q2
  have HR1 := hide_ hr1
  have HR2 := hide_ hr2
  have HR3 := hide_ hr3
  have HR4 := hide_ hr4
  have HB4 := hide_ (below_to hB (below_to hb2 hb4))
  have HLn : Hid (LnP w4 w.heap.size gC cC gE cE C E) := hide_ ⟨own_base (hC2.later hb4) hB.size, own_base hE4 (Nat.le_trans hB.size hb2.size), hcC, hcE⟩
  have hcC' : (C.length : Int) ≤ cC := by omega
  have hcE' : (E.length : Int) ≤ cE := by omega
  clear k1 k2 hr1 hr2 hr3 hr4 hC2 hE4 hb2 hb4 hB
  go_enter Try.func14, Try.ntmps14
  go_upto_region 1 with fail
  rw [← hw0]
  clear hw0
  go_upto_region 3 with (first
    | (at_builtin; have _t := HR1; refine wpList_append_run rfl (.const (.slice none 0 0)) (.tmp 6) 22 22 rfl rfl rfl HR1.out ?_; clear HR1)
    | (at_builtin; have _t := HR2; refine wpList_append_run rfl (.tmp 7) (.tmp 9) 22 22 rfl rfl rfl HR2.out ?_; clear HR2 q1)
    | (at_builtin; have _t := HR3; refine wpList_append_run rfl (.const (.slice none 0 0)) (.tmp 12) 23 23 rfl rfl rfl HR3.out ?_; clear HR3)
    | (at_builtin; have _t := HR4; refine wpList_append_run rfl (.tmp 13) (.tmp 14) 23 23 rfl rfl rfl HR4.out ?_; clear HR4 q2))
  have HSS : Hid (∀ w', Below w4.heap.size w4 w' → (fun w' => w'.cell? ⟨w.heap.size, 0, none⟩ = some (.bool enc) ∧ w'.cell? ⟨w.heap.size, 1, none⟩ = some (.slice ac C.length cc) ∧ w'.cell? ⟨w.heap.size, 2, none⟩ = some (.slice ae E.length ce)) w') := hide_ (fun w' hb => ⟨(K1.out.later hb).cell 0, (K1.out.later hb).cell 1, (K1.out.later hb).cell 2⟩)
  refine wp_region_last 13 (fun w' => w'.cell? ⟨w.heap.size, 0, none⟩ = some (.bool enc) ∧ w'.cell? ⟨w.heap.size, 1, none⟩ = some (.slice ac C.length cc) ∧ w'.cell? ⟨w.heap.size, 2, none⟩ = some (.slice ae E.length ce)) (by kernel_rfl) (HSS.out _ ((Below.refl w4.heap.size w4).drew)) (fun hHeld => ?_)
  refine wpAnyF_take [13] (by kernel_rfl) (i := 0) (v := ?vl1) rfl (by kernel_rfl) (by kernel_rfl) (by kernel_rfl) (fun _ _ _ h => h) (Or.inl ⟨by kernel_rfl, ?hyl1⟩) hHeld ?restl1
  case hyl1 => intro w' hSw; (try dsimp only at hSw); go_simp; try with_reducible rfl
  simp only [Act.put]
  try dsimp only
  refine wpAnyF_take [13] (by kernel_rfl) (i := 1) (v := ?vl2) rfl (by kernel_rfl) (by kernel_rfl) (by kernel_rfl) (fun _ _ _ h => h) (Or.inl ⟨by kernel_rfl, ?hyl2⟩) hHeld ?restl2
  case hyl2 => intro w' hSw; (try dsimp only at hSw); go_simp; try with_reducible rfl
  simp only [Act.put]
  try dsimp only
  refine wpAnyF_take [13] (by kernel_rfl) (i := 2) (v := ?vl3) rfl (by kernel_rfl) (by kernel_rfl) (by kernel_rfl) (fun _ _ _ h => h) (Or.inl ⟨by kernel_rfl, ?hyl3⟩) hHeld ?restl3
  case hyl3 => intro w' hSw; (try dsimp only at hSw); go_simp; try with_reducible rfl
  simp only [Act.put]
  try dsimp only
  refine wpAnyF_take [13] (by kernel_rfl) (i := 3) (v := ?vl4) rfl (by kernel_rfl) (by kernel_rfl) (by kernel_rfl) (fun _ _ _ h => h) (Or.inl ⟨by kernel_rfl, ?hyl4⟩) hHeld ?restl4
  case hyl4 => intro w' hSw; (try dsimp only at hSw); go_simp; try with_reducible rfl
  simp only [Act.put]
  try dsimp only
  refine wpAnyF_take [13] (by kernel_rfl) (i := 4) (v := ?vl5) rfl (by kernel_rfl) (by kernel_rfl) (by kernel_rfl) (fun _ _ _ h => h) (Or.inl ⟨by kernel_rfl, ?hyl5⟩) hHeld ?restl5
  case hyl5 => intro w' hSw; (try dsimp only at hSw); go_simp; try with_reducible rfl
  simp only [Act.put]
  try dsimp only
  refine wpAnyF_take [13] (by kernel_rfl) (i := 5) (v := ?vl6) rfl (by kernel_rfl) (by kernel_rfl) (by kernel_rfl) (fun _ _ _ h => h) (Or.inl ⟨by kernel_rfl, ?hyl6⟩) hHeld ?restl6
  case hyl6 => intro w' hSw; (try dsimp only at hSw); go_simp; try with_reducible rfl
  simp only [Act.put]
  try dsimp only
  refine wpAnyF_take [13] (by kernel_rfl) (i := 6) (v := ?vl7) rfl (by kernel_rfl) (by kernel_rfl) (by kernel_rfl) (fun _ _ _ h => h) (Or.inl ⟨by kernel_rfl, ?hyl7⟩) hHeld ?restl7
  case hyl7 => intro w' hSw; (try dsimp only at hSw); go_simp; try with_reducible rfl
  simp only [Act.put]
  try dsimp only
  refine wpAnyF_take [13] (by kernel_rfl) (i := 7) (v := ?vl8) rfl (by kernel_rfl) (by kernel_rfl) (by kernel_rfl) (fun _ _ _ h => h) (Or.inl ⟨by kernel_rfl, ?hyl8⟩) hHeld ?restl8
  case hyl8 => intro w' hSw; (try dsimp only at hSw); go_simp; try with_reducible rfl
  simp only [Act.put]
  try dsimp only
  refine wpAnyF_take [13] (by kernel_rfl) (i := 8) (v := ?vl9) rfl (by kernel_rfl) (by kernel_rfl) (by kernel_rfl) (fun _ _ _ h => h) (Or.inl ⟨by kernel_rfl, ?hyl9⟩) hHeld ?restl9
  case hyl9 => intro w' hSw; (try dsimp only at hSw); go_simp; try with_reducible rfl
  simp only [Act.put]
  try dsimp only
  refine wpAnyF_take [13] (by kernel_rfl) (i := 9) (v := ?vl10) rfl (by kernel_rfl) (by kernel_rfl) (by kernel_rfl) (fun _ _ _ h => h) (Or.inl ⟨by kernel_rfl, ?hyl10⟩) hHeld ?restl10
  case hyl10 => intro w' hSw; (try dsimp only at hSw); go_simp; try with_reducible rfl
  simp only [Act.put]
  try dsimp only
  refine wpAnyF_take [13] (by kernel_rfl) (i := 10) (v := ?vl11) rfl (by kernel_rfl) (by kernel_rfl) (by kernel_rfl) (fun _ _ _ h => h) (Or.inl ⟨by kernel_rfl, ?hyl11⟩) hHeld ?restl11
  case hyl11 => intro w' hSw; (try dsimp only at hSw); go_simp; try with_reducible rfl
  simp only [Act.put]
  try dsimp only
  refine wpAnyF_take [13] (by kernel_rfl) (i := 11) (v := ?vl12) rfl (by kernel_rfl) (by kernel_rfl) (by kernel_rfl) (fun _ _ _ h => h) (Or.inl ⟨by kernel_rfl, ?hyl12⟩) hHeld ?restl12
  case hyl12 => intro w' hSw; (try dsimp only at hSw); go_simp; try with_reducible rfl
  simp only [Act.put]
  try dsimp only
  refine wpAnyF_take [13] (by kernel_rfl) (i := 12) (v := ?vl13) rfl (by kernel_rfl) (by kernel_rfl) (by kernel_rfl) (fun _ _ _ h => h) (Or.inl ⟨by kernel_rfl, ?hyl13⟩) hHeld ?restl13
  case hyl13 => intro w' hSw; (try dsimp only at hSw); go_simp; try with_reducible rfl
  simp only [Act.put]
  try dsimp only
  refine wpAnyF_ready (rs := [13]) (by kernel_rfl) (by simp) ?_
  refine AllReadyF.last rfl (fun K hK => ?_)
  have KD := hide_ (K2.out.later ((Below.refl w4.heap.size w4).drew))
  have z0 := K2.out.cell 0; have z1 := K2.out.cell 1; have z2 := K2.out.cell 2
  have zf := fun i => K2.out.frozen i
  simp at z0 z1 z2
  go_simp
  refine hK.out _ _ ?_
  clear hK K
  refine wpAnyF_done (by kernel_rfl) ?_ _
  have KZ := hide_ (setP KD.out (.bool enc) (.slice (some ⟨gC, 0, none⟩) C.length cC) (.slice (some ⟨gE, 0, none⟩) E.length cE))
  have HBz := hide_ (below_set (below_set (below_set (below_to HB4.out ((Below.refl w4.heap.size w4).drew)) (w.heap.size + 1) 0 (.bool enc) (by omega)) (w.heap.size + 1) 1 (.slice (some ⟨gC, 0, none⟩) C.length cC) (by omega)) (w.heap.size + 1) 2 (.slice (some ⟨gE, 0, none⟩) E.length cE) (by omega))
  have HLz := hide_ ((HLn.out.later ((Below.refl w4.heap.size w4).drew)).upd ((((Upd.refl (fun k => k = w.heap.size + 1) w4.drew).set ⟨w.heap.size + 1, 0, none⟩ (.bool enc) (.inl rfl)).set ⟨w.heap.size + 1, 1, none⟩ (.slice (some ⟨gC, 0, none⟩) C.length cC) (.inl rfl)).set ⟨w.heap.size + 1, 2, none⟩ (.slice (some ⟨gE, 0, none⟩) E.length cE) (.inl rfl)) (fun e => notC (HLn.out.later ((Below.refl w4.heap.size w4).drew)).c KD.out (by decide) (by rw [← e]; rfl)) (fun e => notI (HLn.out.later ((Below.refl w4.heap.size w4).drew)).e KD.out (by decide) (by rw [← e]; rfl)))
  clear hHeld z0 z1 z2 zf
  go_wp2
  exact retP rfl rfl KZ.out ⟨gC, cC, gE, cE, rfl, HLz, HBz⟩
end Go.Proofs.Ytiojpohmgjdgfaa
