/- Raise: Encoder. -/
import Derived.Test.YtncndgfaalojpaaRwf
import Derived.Test.YtncndgfaalojpaaZp
import Derived.Laws.EntriesVeiled
namespace Go.Proofs.Ytncndgfaalojpaa
open Go.RowKit
set_option linter.unusedVariables false

def EnTo (T : List Ty) (R : List Rt) (w : World) (e : Ending) (w' : World) : Prop := ∃ vC vE, e = .returned (.tuple #[.agg #[.bool (decide (zA T R = 0)), vC, vE], .int .i64 (zA T R)]) ∧ Hid (COwn w' w.heap.size vC (zX T R)) ∧ Hid (IOwn w' w.heap.size vE (zY T R)) ∧ Below w.heap.size w w'
set_option maxRecDepth 100000 in
set_option maxHeartbeats 4000000 in
theorem behind_any (gp : Nat) (w : World) : Calls Try.prog 14 #[.pointer (some ⟨gp, 0, none⟩)] w fun e w' => e = .returned (fnL w.heap.size) ∧ w.alloc (.cells #[.pointer (some ⟨gp, 0, none⟩)] 53) = w' := by
  have hmf : ∀ (fn : Fn) (first cap : Array Value) (w : World), (Instr.makeFunc fn first cap).run Try.prog w = .ok (.func fn first cap) w := fun _ _ _ _ => rfl
  go_enter Try.func14, Try.ntmps14
  go_wp2
  go_ret
  exact ⟨rfl, rfl⟩
theorem retPe {fn : Func} {p a : Tmp} (h : fn.results = #[.cell p 30, .tmp a]) {R : Ending → World → Prop} {tmps : Array Value} {g : Nat} {w : World} {x y z u : Value} (hp : tmps.getD p undef = .pointer (some ⟨g, 0, none⟩)) (ha : tmps.getD a undef = u) (hK : Blk w g 30 [x, y, z]) (hR : R (.returned (.tuple #[.agg #[x, y, z], u])) w) :
    bodyPost Try.prog fn R Exit.ret ⟨tmps, []⟩ w := by
  refine bodyPost_ret (v := .tuple #[.agg #[x, y, z], u]) ?_ rfl hR
  have hl := run_loadVar_row w g 30 30 #[x, y, z] (0, 0) _ (show w.heap[g]? = some (.cells #[x, y, z] 30 (0, 0)) from hK) Try.underlying30 rfl (by show _ = some 3; kernel_rfl)
  have hp' : tmps[p]?.getD undef = .pointer (some ⟨g, 0, none⟩) := by simpa using hp
  have ha' : tmps[a]?.getD undef = u := by simpa using ha
  simp only [results, h]
  simp [hp', ha', asAddr, hl]
theorem setP {w : World} {g : Nat} {t : TypeId} {x y z : Value} (h : Blk w g t [x, y, z]) (x' y' z' : Value) : Blk (((w.setCell ⟨g, 0, none⟩ x').setCell ⟨g, 1, none⟩ y').setCell ⟨g, 2, none⟩ z') g t [x', y', z'] := by
  have := ((h.set 0 x').set 1 y').set 2 z'
  simpa using this
theorem upd3 (w : World) (g : Nat) (x y z : Value) : Upd (fun k => k = g) w (((w.setCell ⟨g, 0, none⟩ x).setCell ⟨g, 1, none⟩ y).setCell ⟨g, 2, none⟩ z) := (((Upd.refl (fun k => k = g) w).set _ _ (.inl rfl)).set _ _ (.inl rfl)).set _ _ (.inl rfl)
theorem Lc.of {w0 w : World} {B B0 cL : Nat} {aL : Option Addr} {P : List (Ly × Value)} (h : LOwn w0 B0 (.slice aL P.length cL) P) (hB : w0.heap.size ≤ B) (hb : Below w0.heap.size w0 w) : Lc B w aL (P.map (·.1)) := fun n y hy => by
  rw [List.getElem?_map] at hy
  cases hp : P[n]? with
  | none => rw [hp] at hy; cases hy
  | some p =>
    rw [hp] at hy
    injection hy with hy
    have hn := (List.getElem?_eq_some_iff.1 hp).1
    obtain ⟨a, c, e, -, hg⟩ := h.slice
    injection e with e _ _
    subst e
    obtain ⟨b, o, rfl, hbl, hc⟩ := hg.open (by omega)
    obtain ⟨sa, sc, hv, -, -, hsr⟩ := (h.sl p (List.mem_of_getElem? hp)).row
    subst hy
    refine ⟨b, o, sa, sc, rfl, fun w' hw => ?_⟩
    have hb' : Below w0.heap.size w0 w' := hb.trans (below_le hw hB)
    have c0 := hc n p hp 0 (by decide); have c1 := hc n p hp 1 (by decide)
    refine ⟨(hb'.cell (p := ⟨b, o + n * 2, none⟩) hbl).trans c0, (hb'.cell (p := ⟨b, o + n * 2 + 1, none⟩) hbl).trans (c1.trans ?_), hsr.later hb'⟩
    rw [← hv]
    rfl
set_option maxRecDepth 100000 in
set_option maxHeartbeats 4000000 in
theorem big_any (ax : Option Addr) (cx : Nat) (X : List Ex) (w : World) (hl : X.length ≤ 9223372036854775806) (hX : Hid (XRow w ax X)) :
    Calls Try.prog 12 #[.slice ax X.length cx] w fun e w' => e = .returned (.bool (bigX X)) ∧ Below w.heap.size w w' := by
  go_enter Try.func12, Try.ntmps12
  go_wp2_with fail
  go_loopw [7] (fun x7 wr => ∃ (i : Nat), i ≤ X.length ∧ x7 = .int .i64 (i : Int) ∧ Hid (bigX (X.take i) = false) ∧ Hid (Below w.heap.size w wr)) (fun x7 _ => X.length - (intOf x7).toNat)
  case atStart => exact ⟨0, Nat.zero_le _, rfl, hide_ rfl, hide_ (Below.refl _ _)⟩
  case round =>
    obtain ⟨i, hi, rfl, HF, HB⟩ := hrel
    generalize wr = wq at *
    by_cases hlt : i < X.length
    · have hlt' : (i : Int) < X.length := by omega
      have hx : X[i]? = some (X[i]'hlt) := List.getElem?_eq_getElem hlt
      obtain ⟨b, o, rfl, -, hc⟩ := (hX.out.later HB.out).open (by omega)
      have i0 := hc i _ hx 0 (by decide); have i1 := hc i _ hx 1 (by decide); have i2 := hc i _ hx 2 (by decide); have i3 := hc i _ hx 3 (by decide)
      have HS : Hid (bigX (X.take (i + 1)) = (bigX (X.take i) || decide (16777216 < (X[i]'hlt).m))) := hide_ (by unfold bigX; rw [List.take_succ_eq_append_getElem hlt, List.any_append]; simp only [List.any_cons, List.any_nil, Bool.or_false])
      have HA : Hid (decide (16777216 < (X[i]'hlt).m) = true → bigX X = true) := hide_ (fun h => by
        unfold bigX
        rw [List.any_eq_true]
        exact ⟨_, List.getElem_mem hlt, h⟩)
      generalize X[i]'hlt = x at *
      obtain ⟨xf, xl, xm, xd⟩ := x
      simp [exc] at i0 i1 i2 i3
      simp only at HS HA
      obtain ⟨wx, hwx⟩ : ∃ wx, wx = wq.alloc (.cells #[.bool xf, .int .i64 xl, .int .i64 xm, .int .i64 xd] 63) := ⟨_, rfl⟩
      have hBx : Below wq.heap.size wq wx := by rw [hwx]; exact below1 _ _
      have kx : Blk wx wq.heap.size 63 [.bool xf, .int .i64 xl, .int .i64 xm, .int .i64 xd] := by rw [hwx]; exact Blk.newA wq _ _
      have j2 := kx.cell 2
      simp at j2
      have HBx := hide_ (below_to HB.out hBx)
      clear hc hx kx hBx
      go_upto_region 4 with fail
      rw [← hwx]
      clear hwx i0 i1 i2 i3
      by_cases hm : 16777216 < xm
      · have HT := hide_ (HA.out (decide_eq_true hm))
        go_wp2_with fail
        go_ret
        exact ⟨by rw [HT.out]; rfl, HBx.out⟩
      · have HF2 : Hid (bigX (X.take (i + 1)) = false) := hide_ (by rw [HS.out, HF.out, decide_eq_false hm]; rfl)
        go_wp2_with fail
        go_roundw
        case rel => exact ⟨i + 1, by omega, by go_num, HF2, HBx⟩
        case measure => simp [intOf]; omega
    · obtain rfl : i = X.length := by omega
      have hF := HF.out
      rw [List.take_length] at hF
      have HFx := hide_ hF
      clear hF
      go_wp2_with fail
      go_ret
      exact ⟨by rw [HFx.out]; rfl, HB.out⟩
set_option maxRecDepth 100000 in
set_option maxHeartbeats 8000000 in
theorem encoder_any (a : Option Addr) (c : Nat) (T : List Ty) (ar : Option Addr) (cr : Nat) (R : List Rt) (w : World) (hn : T.length ≤ 3000000000000) (hm : R.length ≤ 10000000000000) (hL : Hid (LensT T)) (hT : Hid (TRow w a T)) (hR : Hid (RRow w ar R)) :
    Calls Try.prog 6 #[.agg #[.slice a T.length c, .slice ar R.length cr]] w fun e w' => EnTo T R w e w' := by
  obtain ⟨w1, hw1⟩ : ∃ wx, wx = (w.alloc (.cells #[.slice a T.length c, .slice ar R.length cr] 25)).alloc (.cells #[.bool false, .slice none 0 0, .slice none 0 0] 30) := ⟨_, rfl⟩
  have hB1 : Below w.heap.size w w1 := by rw [hw1]; exact below2 _ _ _
  obtain ⟨ks, kp⟩ := blk2 w #[.slice a T.length c, .slice ar R.length cr] #[.bool false, .slice none 0 0, .slice none 0 0] 25 30
  rw [← hw1] at ks kp
  have KS := hide_ ks
  have KP := hide_ kp
  have HB1 := hide_ hB1
  have s0 := ks.cell 0; have s1 := ks.cell 1
  simp at s0 s1
  have HOf := hide_ (of_any a c T ar cr R w1 (by omega) hm hL (hide_ (hT.out.later hB1)) (hide_ (hR.out.later hB1)))
  have hsz : w.heap.size + 1 < w1.heap.size := kp.lt
  clear hB1 ks kp
  go_enter Try.func6, Try.ntmps6
  go_upto_region 1 with fail
  rw [← hw1]
  clear hw1
  go_wp2_with fail
  refine HOf.out.mono ?_; rintro e w2 hOf
  clear HOf
  rcases hOf with ⟨hne, rfl, hB2⟩ | ⟨hok, vx, rfl, hXo, hB2⟩
  · have HA : Hid (zA T R = 92) := hide_ (by unfold zA; rw [if_pos hne])
    have hE1 : ((chk T R).1 != 0) = true := by simpa using hne
    obtain ⟨vE, hvE⟩ : ∃ vE, (chk T R).1 = vE := ⟨_, rfl⟩
    rw [hvE] at hE1 ⊢
    have HBf := hide_ (below_to HB1.out hB2)
    have kp2 := KP.out.later hB2
    have p0 := kp2.cell 0; have p1 := kp2.cell 1; have p2 := kp2.cell 2
    have pz := fun i => kp2.frozen i
    simp at p0 p1 p2
    have HK2 := hide_ (setP kp2 (.bool false) (.slice none 0 0) (.slice none 0 0))
    clear hvE hne hB2 kp2
    go_wp2_with fail
    refine retPe rfl rfl rfl HK2.out ?_
    exact ⟨_, _, by rw [HA.out]; rfl, hide_ (by unfold zX; rw [HA.out, if_neg (by decide)]; exact COwn.nil _ _), hide_ (by unfold zY; rw [HA.out, if_neg (by decide)]; exact IOwn.nil _ _), HBf.out.trans ((upd3 _ _ _ _ _).below _ HBf.out.size (fun k hk => by omega))⟩
  · obtain ⟨ax, cx, hvx, -, -, hXr⟩ := hXo.row
    subst hvx
    have HOK := hide_ hok
    have HB2 := hide_ hB2
    have HXl := hide_ (extL_len T)
    have HBg := hide_ (big_any ax cx (extL T) w2 (by rw [HXl.out]; omega) (hide_ hXr))
    have HCk : Hid ((chk T R).1 = 0) := hide_ (by rw [hok.chk])
    clear hXo hok hXr hB2
    have HAd : Hid (zA T R = if bigX (extL T) then 91 else if 1048576 < (zC T (extL T) T.length).length then 4 else 0) := hide_ (by unfold zA; rw [if_neg (by rw [HCk.out]; decide)])
    obtain ⟨X, hX⟩ : ∃ X, extL T = X := ⟨_, rfl⟩
    have HXe := hide_ hX
    rw [hX] at HXl HBg HAd ⊢
    clear hX
    obtain ⟨bg, hbg⟩ : ∃ b, bigX X = b := ⟨_, rfl⟩
    rw [hbg] at HBg HAd
    have HBe := hide_ hbg
    clear hbg
    go_upto_region 4 with fail
    clear s0 s1
    cases bg with
    | true =>
      have HA : Hid (zA T R = 91) := hide_ (by rw [HAd.out, if_pos rfl])
      go_upto_region 5 with (go_at_call 12; refine HBg.out.mono ?_; rintro e w3 ⟨rfl, hB3⟩)
      have HBf := hide_ (below_to HB1.out (below_to HB2.out hB3))
      have kp2 := KP.out.later (below_to HB2.out hB3)
      have p0 := kp2.cell 0; have p1 := kp2.cell 1; have p2 := kp2.cell 2
      have pz := fun i => kp2.frozen i
      simp at p0 p1 p2
      have HK2 := hide_ (setP kp2 (.bool false) (.slice none 0 0) (.slice none 0 0))
      clear hB3 kp2
      go_wp2_with fail
      refine retPe rfl rfl rfl HK2.out ?_
      exact ⟨_, _, by rw [HA.out]; rfl, hide_ (by unfold zX; rw [HA.out, if_neg (by decide)]; exact COwn.nil _ _), hide_ (by unfold zY; rw [HA.out, if_neg (by decide)]; exact IOwn.nil _ _), HBf.out.trans ((upd3 _ _ _ _ _).below _ HBf.out.size (fun k hk => by omega))⟩
    | false =>
    simp only [if_neg Bool.false_ne_true] at HAd
    go_upto_region 6 with (go_at_call 12; refine HBg.out.mono ?_; rintro e w3 ⟨rfl, hB3⟩)
    have HB3 := hide_ (below_to HB1.out (below_to HB2.out hB3))
    have ks3 := KS.out.later (below_to HB2.out hB3)
    have KS3 := hide_ ks3
    have KP3 := hide_ (KP.out.later (below_to HB2.out hB3))
    have s0 := ks3.cell 0; have s1 := ks3.cell 1
    simp at s0 s1
    have HLo := hide_ (lof_any a c T ar cr R w3 (by omega) hm hL (hide_ (hT.out.later HB3.out)) (hide_ (hR.out.later HB3.out)))
    clear HBg ks3 hB3 HB2 HB1 KS KP
    go_wp2_with fail
    refine HLo.out.mono ?_; rintro e w4 hLo
    clear HLo
    rcases hLo with ⟨hne, -, -⟩ | ⟨-, vl, P, rfl, hPm, hPo, hB4⟩
    · exact absurd HCk.out hne
    obtain ⟨aL, cL, hvl, -, -⟩ := hPo.slice
    subst hvl
    have hPl : P.length = T.length := by have := congrArg List.length hPm; simpa using this
    have ks4 := KS3.out.later hB4
    have s0' := ks4.cell 0
    simp at s0'
    obtain ⟨w5, hw5⟩ : ∃ wx, wx = w4.alloc (.cells #[.bool true, .slice none 0 0, .slice none 0 0] 30) := ⟨_, rfl⟩
    have hB5 : Below w4.heap.size w4 w5 := by rw [hw5]; exact below1 _ _
    have kb5 : Blk w5 w4.heap.size 30 [.bool true, .slice none 0 0, .slice none 0 0] := by rw [hw5]; exact Blk.newA w4 _ _
    have HB4 := hide_ (below_to HB3.out hB4)
    have HC5 : Hid (Tc w4.heap.size w5 a T) := hide_ (Tc.of (hT.out.later HB4.out) (Nat.le_refl _) hB5)
    have HL5 : Hid (Lc w4.heap.size w5 aL (T.map (layP X))) := hide_ (by
      have := Lc.of hPo (Nat.le_refl _) hB5
      rw [hPm, HXe.out] at this
      exact this)
    have HPl := hide_ hPl
    have KS5 := hide_ (ks4.later hB5)
    have KP5 := hide_ ((KP3.out.later hB4).later hB5)
    have hz4 : w.heap.size + 1 < w4.heap.size := Nat.lt_of_lt_of_le KP3.out.lt hB4.size
    have hz5 : w4.heap.size ≤ w5.heap.size := hB5.size
    have HB5 := hide_ (below_to HB4.out hB5)
    have HLb := hide_ (fun w' => behind_any w4.heap.size w')
    have HSS : Hid (∀ w', Below w5.heap.size w5 w' → (fun w' => w'.cell? ⟨w.heap.size, 0, none⟩ = some (.slice a T.length c)) w') := hide_ (fun w' hb => by have := (KS5.out.later hb).cell 0; simpa using this)
    have hmk : ∀ (w6 : World) (gr gb : Nat), Below w5.heap.size w5 w6 → Blk w6 gr 55 [.slice a T.length c, .slice aL P.length cL, fnL gb] → Blk w6 gb 53 [.pointer (some ⟨w4.heap.size, 0, none⟩)] → Rz w6 w4.heap.size gr w4.heap.size gb (.slice a T.length c) (.slice aL P.length cL) (zC T X 0) (zE T X 0) := fun w6 gr gb h1 h2 h3 => ⟨Nat.le_refl _, h2, h3, _, _, kb5.later h1, COwn.nil _ _, IOwn.nil _ _⟩
    have HA : Hid (∃ gr gb w6, w6 = ((w5.alloc (.cells #[.pointer (some ⟨w4.heap.size, 0, none⟩)] 53)).alloc (.cells #[.slice a T.length c, .slice aL P.length cL, fnL w5.heap.size] 55)).drew ∧ Value.pointer (some ⟨w5.heap.size + 1, 0, none⟩) = .pointer (some ⟨gr, 0, none⟩) ∧ Hid (Rz w6 w4.heap.size gr w4.heap.size gb (.slice a T.length c) (.slice aL P.length cL) (zC T X 0) (zE T X 0)) ∧ Hid (Below w5.heap.size w5 w6)) := hide_ (by
      obtain ⟨k1, k2⟩ := blk2 w5 #[.pointer (some ⟨w4.heap.size, 0, none⟩)] #[.slice a T.length c, .slice aL P.length cL, fnL w5.heap.size] 53 55
      exact ⟨_, w5.heap.size, _, rfl, rfl, hide_ (hmk _ _ _ (Below.drew (below2 w5 _ _)) k2.drew k1.drew), hide_ (Below.drew (below2 w5 _ _))⟩)
    have HB : Hid (∃ gr gb w6, w6 = ((w5.alloc (.cells #[.slice a T.length c, .slice aL P.length cL, fnL (w5.heap.size + 1)] 55)).alloc (.cells #[.pointer (some ⟨w4.heap.size, 0, none⟩)] 53)).drew ∧ Value.pointer (some ⟨w5.heap.size, 0, none⟩) = .pointer (some ⟨gr, 0, none⟩) ∧ Hid (Rz w6 w4.heap.size gr w4.heap.size gb (.slice a T.length c) (.slice aL P.length cL) (zC T X 0) (zE T X 0)) ∧ Hid (Below w5.heap.size w5 w6)) := hide_ (by
      obtain ⟨k1, k2⟩ := blk2 w5 #[.slice a T.length c, .slice aL P.length cL, fnL (w5.heap.size + 1)] #[.pointer (some ⟨w4.heap.size, 0, none⟩)] 55 53
      exact ⟨_, w5.heap.size + 1, _, rfl, rfl, hide_ (hmk _ _ _ (Below.drew (below2 w5 _ _)) k1.drew k2.drew), hide_ (Below.drew (below2 w5 _ _))⟩)
    clear s0 s1 hPm hPo hB4 hB5 kb5 hPl hsz KP3 KS3 hmk ks4
    go_upto_region 10 with fail
    rw [← hw5]
    clear hw5 s0'
    go_cut [8] from 31 to 36 (fun x8 wc => ∃ gr gb w6, w6 = wc ∧ x8 = .pointer (some ⟨gr, 0, none⟩) ∧ Hid (Rz w6 w4.heap.size gr w4.heap.size gb (.slice a T.length c) (.slice aL P.length cL) (zC T X 0) (zE T X 0)) ∧ Hid (Below w5.heap.size w5 w6))
    case first =>
      refine wp_region_last 6 (fun w' => w'.cell? ⟨w.heap.size, 0, none⟩ = some (.slice a T.length c)) (by kernel_rfl) (HSS.out _ ((Below.refl w5.heap.size w5).drew)) (fun hHeld => ?_)
      refine wpAnyF_take [6] (by kernel_rfl) (i := 0) (v := ?vn1) rfl (by kernel_rfl) (by kernel_rfl) (by kernel_rfl) (fun _ _ _ h => h) (Or.inl ⟨by kernel_rfl, ?hyn1⟩) hHeld ?restn1
      case hyn1 => intro w' hSw; (try dsimp only at hSw); go_simp; try with_reducible rfl
      simp only [Act.put]
      refine wpAnyF_take [6] (by kernel_rfl) (i := 1) (v := ?vn2) rfl (by kernel_rfl) (by kernel_rfl) (by kernel_rfl) (fun _ _ _ h => h) (Or.inl ⟨by kernel_rfl, ?hyn2⟩) hHeld ?restn2
      case hyn2 => intro w' hSw; (try dsimp only at hSw); go_simp; try with_reducible rfl
      simp only [Act.put]
      refine wpAnyF_take [6] (by kernel_rfl) (i := 2) (v := ?vn3) rfl (by kernel_rfl) (by kernel_rfl) (by kernel_rfl) (fun _ _ _ h => h) (Or.inl ⟨by kernel_rfl, ?hyn3⟩) hHeld ?restn3
      case hyn3 => intro w' hSw; (try dsimp only at hSw); go_simp; try with_reducible rfl
      simp only [Act.put]
      refine wpAnyF_ready (rs := [3, 5]) (by kernel_rfl) (by simp) ?_
      refine AllReadyF.cons rfl (fun K hK => ?_) ?_
      · go_simp
        refine (HLb.out _).mono ?_
        rintro e w' ⟨rfl, rfl⟩
        simp only [fnL]
        try dsimp only
        refine hK.out _ _ (HSS.out _ (below_to ((Below.refl w5.heap.size w5).drew) (below1 _ _))) (fun hHeld => ?_)
        clear hK K
        refine wpAnyF_take [6] (by kernel_rfl) (i := 4) (v := ?vn4) rfl (by kernel_rfl) (by kernel_rfl) (by kernel_rfl) (fun _ _ _ h => h) (Or.inl ⟨by kernel_rfl, ?hyn4⟩) hHeld ?restn4
        case hyn4 => intro w' hSw; (try dsimp only at hSw); go_simp; try with_reducible rfl
        simp only [Act.put]
        refine wpAnyF_ready (rs := [5]) (by kernel_rfl) (by simp) ?_
        refine AllReadyF.cons rfl (fun K hK => ?_) AllReadyF.nil
        go_simp
        refine hK.out _ _ (HSS.out _ (below_to (below_to ((Below.refl w5.heap.size w5).drew) (below1 _ _)) (below1 _ _))) (fun hHeld => ?_)
        clear hK K
        refine wpAnyF_ready (rs := [6]) (by kernel_rfl) (by simp) ?_
        refine AllReadyF.last rfl (fun K hK => ?_)
        go_simp
        refine hK.out _ _ ?_
        clear hK K
        refine wpAnyF_done (by kernel_rfl) ?_ _
        go_wp2_with fail
        go_meet
        case rel => first | exact HA.out | exact HB.out
      refine AllReadyF.cons rfl (fun K hK => ?_) AllReadyF.nil
      go_simp
      refine hK.out _ _ (HSS.out _ (below_to ((Below.refl w5.heap.size w5).drew) (below1 _ _))) (fun hHeld => ?_)
      clear hK K
      refine wpAnyF_ready (rs := [3]) (by kernel_rfl) (by simp) ?_
      refine AllReadyF.cons rfl (fun K hK => ?_) AllReadyF.nil
      go_simp
      refine (HLb.out _).mono ?_
      rintro e w' ⟨rfl, rfl⟩
      simp only [fnL]
      try dsimp only
      refine hK.out _ _ (HSS.out _ (below_to (below_to ((Below.refl w5.heap.size w5).drew) (below1 _ _)) (below1 _ _))) (fun hHeld => ?_)
      clear hK K
      refine wpAnyF_take [6] (by kernel_rfl) (i := 4) (v := ?vn5) rfl (by kernel_rfl) (by kernel_rfl) (by kernel_rfl) (fun _ _ _ h => h) (Or.inl ⟨by kernel_rfl, ?hyn5⟩) hHeld ?restn5
      case hyn5 => intro w' hSw; (try dsimp only at hSw); go_simp; try with_reducible rfl
      simp only [Act.put]
      refine wpAnyF_ready (rs := [6]) (by kernel_rfl) (by simp) ?_
      refine AllReadyF.last rfl (fun K hK => ?_)
      go_simp
      refine hK.out _ _ ?_
      clear hK K
      refine wpAnyF_done (by kernel_rfl) ?_ _
      go_wp2_with fail
      go_meet
      case rel => first | exact HA.out | exact HB.out
    case rest =>
    clear HLb HSS HA HB
    obtain ⟨gr, gb, w6, hw6, rfl, HM6, HB6⟩ := hcut
    subst hw6
    have HC6 := hide_ (HC5.out.kp hz5 (Kp.later HB6.out))
    have HL6 := hide_ (HL5.out.kp hz5 (Kp.later HB6.out))
    have KS6 := hide_ (KS5.out.later HB6.out)
    have KP6 := hide_ (KP5.out.later HB6.out)
    have hz6 : w4.heap.size ≤ w6.heap.size := Nat.le_trans hz5 HB6.out.size
    have HBw6 := hide_ (below_to HB5.out HB6.out)
    have q0 := KS6.out.cell 0
    simp at q0
    clear HC5 HL5 KS5 KP5 HB6 HB5 hz5
    have hwb := hz4
    generalize hgb : w4.heap.size = gp at *
    go_wp2_with fail
    go_loopw [39] (fun x39 wr => ∃ (i : Nat), i ≤ T.length ∧ x39 = .int .i64 (i : Int) ∧ Hid (Rz wr gp gr gp gb (.slice a T.length c) (.slice aL P.length cL) (zC T X i) (zE T X i)) ∧ Hid (Kp gp w6 wr) ∧ Hid ((zC T X i).length ≤ 1048576)) (fun x39 _ => T.length - (intOf x39).toNat)
    case atStart => exact ⟨0, Nat.zero_le _, rfl, HM6, hide_ (Kp.refl _ _), hide_ (by simp [zC])⟩
    case round =>
      obtain ⟨i, hi, rfl, HMq, HKq, HLq⟩ := hrel
      generalize wr = wq at *
      clear HM6 q0
      by_cases hlt : i < T.length
      · have hlt' : (i : Int) < T.length := by omega
        have hx : T[i]? = some (T[i]'hlt) := List.getElem?_eq_getElem hlt
        have hok1 := HOK.out.ty i hlt
        rw [show T.getD i ty0 = T[i]'hlt by simp [List.getD, hlt]] at hok1
        have hil : i ≤ 1048576 := Nat.le_trans (zC_len2 T X i) HLq.out
        obtain ⟨ae, ce, vC, g, cap, w7, k1, ⟨ac, cc, hvc⟩, r1, k2, hM7, hK7⟩ := HMq.out.entry ((zC T X i).length : Int) (by rw [zE_len]; omega)
        subst hvc
        rw [zE_len] at k1 r1 k2 hM7 hK7
        obtain ⟨lc, hlc⟩ : ∃ l, (zC T X i).length = l := ⟨_, rfl⟩
        have HCs : Hid (zC T X i ++ zrP T X (T[i]'hlt) ((zC T X i).length : Int) = zC T X (i + 1)) := hide_ (by show _ = zC T X i ++ _; rw [tyA_at hx])
        have HEs : Hid (zE T X i ++ [((zC T X i).length : Int)] = zE T X (i + 1)) := hide_ (zE_succ T X i).symm
        rw [HEs.out] at hM7
        obtain ⟨w8, hw8⟩ : ∃ wx, wx = w7.setCell ⟨gp, 2, none⟩ (.slice (some ⟨g, 0, none⟩) (i + 1) cap) := ⟨_, rfl⟩
        rw [← hw8] at hM7 hK7
        have HK8 := hide_ (HKq.out.trans hK7)
        have hRt := fun k nn el ps (e : T[i]'hlt = ⟨k, nn, el, ps⟩) => routine_any gp gr gp gb a aL c P.length cL T X (zC T X i) (zE T X (i + 1)) i k nn el ps w8 (by have := HLq.out; omega) HPl.out.symm (by rw [← e]; exact hx) (hide_ (by rw [← e]; exact hok1)) (hide_ (HC6.out.kp hz6 HK8.out)) (hide_ (HL6.out.kp hz6 HK8.out)) (hide_ hM7)
        have hRt2 := hRt (T[i]'hlt).k (T[i]'hlt).n (T[i]'hlt).e (T[i]'hlt).ps rfl
        have e9 : (⟨(T[i]'hlt).k, (T[i]'hlt).n, (T[i]'hlt).e, (T[i]'hlt).ps⟩ : Ty) = T[i]'hlt := rfl
        rw [e9, HCs.out] at hRt2
        have HRt := hide_ hRt2
        have HMn := hide_ (zC_mono T X (i + 1) (T.length - (i + 1)))
        rw [show i + 1 + (T.length - (i + 1)) = T.length by omega] at HMn
        have p1 := k1.cell 1; have p2 := k1.cell 2
        have r2 := k2.cell 2; have rz := k2.frozen 2
        simp at p1 p2 r2
        rw [hlc] at p1 r1
        have HR := hide_ r1
        have HLc := hide_ hlc
        clear hx hok1 HCs hRt hRt2 e9 k1 k2 r1 hM7 hK7 hlc HEs
        go_upto_region 15 with (at_builtin; refine wpList_append_run rfl (.tmp 43) (.tmp 47) 28 28 rfl rfl rfl HR.out ?_)
        rw [← hw8]
        clear hw8 HR p1 p2 r2 rz
        go_upto_region 16 with (go_at_call 15; refine HRt.out.mono ?_; rintro e w9 ⟨rfl, HM9, HK9⟩)
        clear HRt HMq
        obtain ⟨vC9, vE9, kb9, hc9, -⟩ := HM9.out.bp
        obtain ⟨ac9, cc9, rfl, -⟩ := hc9.row
        have c1 := kb9.cell 1
        simp at c1
        have HK10 := hide_ (HK8.out.trans HK9.out)
        clear kb9 hc9 HK9 HKq HK8
        by_cases hbig : 1048576 < (zC T X (i + 1)).length
        · have hbig' : (1048576 : Int) < ((zC T X (i + 1)).length : Int) := by omega
          have HA : Hid (zA T R = 4) := hide_ (by rw [HAd.out, if_pos (by have := HMn.out; omega)])
          have hBf := HBw6.out.trans ((below_le (HK10.out.below hz6) (by omega)) : Below w.heap.size w6 w9)
          have HBf := hide_ hBf
          have kp2 := KP6.out.below (HK10.out.below hz6) hwb
          have p0 := kp2.cell 0; have p1 := kp2.cell 1; have p2 := kp2.cell 2
          have pz := fun i => kp2.frozen i
          simp at p0 p1 p2
          have HK2 := hide_ (setP kp2 (.bool false) (.slice none 0 0) (.slice none 0 0))
          clear hBf kp2 hbig
          go_wp2_with fail
          refine retPe rfl rfl rfl HK2.out ?_
          exact ⟨_, _, by rw [HA.out]; rfl, hide_ (by unfold zX; rw [HA.out, if_neg (by decide)]; exact COwn.nil _ _), hide_ (by unfold zY; rw [HA.out, if_neg (by decide)]; exact IOwn.nil _ _), HBf.out.trans ((upd3 _ _ _ _ _).below _ HBf.out.size (fun k hk => by omega))⟩
        · have hbig' : ¬ (1048576 : Int) < ((zC T X (i + 1)).length : Int) := by omega
          have HLn : Hid ((zC T X (i + 1)).length ≤ 1048576) := hide_ (by omega)
          clear hbig
          go_wp2_with fail
          go_roundw
          case rel => exact ⟨i + 1, by omega, by go_num, HM9, HK10, HLn⟩
          case measure => simp [intOf]; omega
      · obtain rfl : i = T.length := by omega
        have HA : Hid (zA T R = 0) := hide_ (by rw [HAd.out, if_neg (by have := HLq.out; omega)])
        obtain ⟨vC, vE, kb7, hc7, he7⟩ := HMq.out.bp
        obtain ⟨ac, cc, hvc, -⟩ := hc7.row
        obtain ⟨ae, ce, hve⟩ := he7.slice
        subst hvc hve
        have c0 := kb7.cell 0; have c1 := kb7.cell 1; have c2 := kb7.cell 2
        simp at c0 c1 c2
        have hBf : Below w.heap.size w wq := HBw6.out.trans (below_le (HKq.out.below hz6) (by omega))
        have HBf := hide_ hBf
        have kp2 := KP6.out.below (HKq.out.below hz6) hwb
        have p0 := kp2.cell 0; have p1 := kp2.cell 1; have p2 := kp2.cell 2
        have pz := fun i => kp2.frozen i
        simp at p0 p1 p2
        have HK2 := hide_ (setP kp2 (.bool true) (.slice ac (zC T X T.length).length cc) (.slice ae (zE T X T.length).length ce))
        have HCf : Hid (COwn (((wq.setCell ⟨w.heap.size + 1, 0, none⟩ (.bool true)).setCell ⟨w.heap.size + 1, 1, none⟩ (.slice ac (zC T X T.length).length cc)).setCell ⟨w.heap.size + 1, 2, none⟩ (.slice ae (zE T X T.length).length ce)) w.heap.size (.slice ac (zC T X T.length).length cc) (zX T R)) := hide_ (by
          unfold zX
          rw [HA.out, if_pos rfl, HXe.out]
          exact own_base (ownS_upd hc7 (upd3 _ _ _ _ _) (fun k e hk => by subst hk; exact notC hc7 kp2 (by decide) e)) (by omega))
        have HEf : Hid (IOwn (((wq.setCell ⟨w.heap.size + 1, 0, none⟩ (.bool true)).setCell ⟨w.heap.size + 1, 1, none⟩ (.slice ac (zC T X T.length).length cc)).setCell ⟨w.heap.size + 1, 2, none⟩ (.slice ae (zE T X T.length).length ce)) w.heap.size (.slice ae (zE T X T.length).length ce) (zY T R)) := hide_ (by
          unfold zY
          rw [HA.out, if_pos rfl, HXe.out]
          exact own_base (he7.upd (upd3 _ _ _ _ _) (fun k e hk => by subst hk; exact notI he7 kp2 (by decide) e)) (by omega))
        clear hBf kp2 kb7 hc7 he7
        go_wp2_with fail
        refine retPe rfl rfl rfl HK2.out ?_
        exact ⟨_, _, by rw [HA.out]; rfl, HCf, HEf, HBf.out.trans ((upd3 _ _ _ _ _).below _ HBf.out.size (fun k hk => by omega))⟩
end Go.Proofs.Ytncndgfaalojpaa
