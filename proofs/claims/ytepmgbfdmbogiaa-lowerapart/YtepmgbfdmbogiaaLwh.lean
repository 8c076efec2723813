/- Lower: Decoder. -/
import Derived.Test.YtepmgbfdmbogiaaLwg
namespace Go.Proofs.Ytepmgbfdmbogiaa
open Go.RowKit
set_option linter.unusedVariables false

theorem rtnP_len {T : List Ty} {X : List Ex} {t : Ty} {n : Nat} (b : Int) (h : tyOk t (n : Int) = true) : 2 ≤ (rtnP T X t (n : Int) b).length ∧ (rtnP T X t (n : Int) b).length ≤ 300 := by
  have h1 := h
  unfold tyOk at h1
  simp only [Bool.and_eq_true] at h1
  have h2 := of_decide_eq_true h1.1.1
  obtain ⟨k, nn, el, ps⟩ := t
  simp only at h2 h1
  unfold rtnP
  rw [List.length_append, List.length_singleton]
  have hk : k = 1 ∨ k = 2 ∨ k = 3 ∨ k = 4 ∨ k = 5 ∨ k = 6 ∨ k = 7 ∨ k = 8 := by omega
  rcases hk with rfl | rfl | rfl | rfl | rfl | rfl | rfl | rfl
  · simp [bodP]
  · simp [bodP]
  · simp [bodP]
  · simp [bodP]; split <;> simp [itF, itV]
  · simp [bodP]; split <;> simp [itF, itV]
  · simp [bodP]
  · obtain ⟨p0, p1⟩ := parts_n h (.inl rfl)
    simp [bodP, armP, hdP_len, bdP_all T ps _ p0]
    omega
  · obtain ⟨p0, p1⟩ := parts_n h (.inr rfl)
    have := vrN_le X ps ps.length
    simp [bodP, fldP, fxP_len, vrP_len]
    omega
theorem lowC_mono (T : List Ty) (X : List Ex) (i : Nat) : ∀ j, (lowC T X i).length ≤ (lowC T X (i + j)).length
  | 0 => Nat.le_refl _
  | j + 1 => by
    have := lowC_mono T X i j
    show _ ≤ (lowC T X (i + j) ++ _).length
    rw [List.length_append]
    omega
theorem lowE_succ (T : List Ty) (X : List Ex) (i : Nat) : lowE T X (i + 1) = lowE T X i ++ [((lowC T X i).length : Int)] := by simp [lowE, List.range_succ]
theorem lowE_len (T : List Ty) (X : List Ex) (i : Nat) : (lowE T X i).length = i := by simp [lowE]
def bigX (X : List Ex) : Bool := X.any (fun x => decide (16777216 < x.m))
/-- The error that Decoder answers. -/
def lowA (T : List Ty) (R : List Rt) : Int := if (chk T R).1 ≠ 0 then 92 else if bigX (extL T) then 91 else if 1048576 < (lowC T (extL T) T.length).length then 4 else 0
def lowX (T : List Ty) (R : List Rt) : List In := if lowA T R = 0 then lowC T (extL T) T.length else []
def lowY (T : List Ty) (R : List Rt) : List Int := if lowA T R = 0 then lowE T (extL T) T.length else []
def DcTo (T : List Ty) (R : List Rt) (w : World) (e : Ending) (w' : World) : Prop := ∃ vC vE, e = .returned (.tuple #[.agg #[.bool false, vC, vE], .int .i64 (lowA T R)]) ∧ Hid (COwn w' w.heap.size vC (lowX T R)) ∧ Hid (IOwn w' w.heap.size vE (lowY T R)) ∧ Below w.heap.size w w'
theorem retPe {fn : Func} {p a : Tmp} (h : fn.results = #[.cell p 31, .tmp a]) {R : Ending → World → Prop} {tmps : Array Value} {g : Nat} {w : World} {x y z u : Value} (hp : tmps.getD p undef = .pointer (some ⟨g, 0, none⟩)) (ha : tmps.getD a undef = u) (hK : Blk w g 31 [x, y, z]) (hR : R (.returned (.tuple #[.agg #[x, y, z], u])) w) :
    bodyPost Try.prog fn R Exit.ret ⟨tmps, []⟩ w := by
  refine bodyPost_ret (v := .tuple #[.agg #[x, y, z], u]) ?_ rfl hR
  have hl := run_loadVar_row w g 31 31 #[x, y, z] (0, 0) _ (show w.heap[g]? = some (.cells #[x, y, z] 31 (0, 0)) from hK) Try.underlying31 rfl (by show _ = some 3; kernel_rfl)
  have hp' : tmps[p]?.getD undef = .pointer (some ⟨g, 0, none⟩) := by simpa using hp
  have ha' : tmps[a]?.getD undef = u := by simpa using ha
  simp only [results, h]
  simp [hp', ha', asAddr, hl]
theorem setP {w : World} {g : Nat} {t : TypeId} {x y z : Value} (h : Blk w g t [x, y, z]) (x' y' z' : Value) : Blk (((w.setCell ⟨g, 0, none⟩ x').setCell ⟨g, 1, none⟩ y').setCell ⟨g, 2, none⟩ z') g t [x', y', z'] := by
  have := ((h.set 0 x').set 1 y').set 2 z'
  simpa using this
theorem upd3 (w : World) (g : Nat) (x y z : Value) : Upd (fun k => k = g) w (((w.setCell ⟨g, 0, none⟩ x).setCell ⟨g, 1, none⟩ y).setCell ⟨g, 2, none⟩ z) := (((Upd.refl (fun k => k = g) w).set _ _ (.inl rfl)).set _ _ (.inl rfl)).set _ _ (.inl rfl)
theorem Lc.of {w0 w : World} {B B0 cL : Nat} {aL : Option Addr} {P : List (Ly × Value)} (h : LOwn w0 B0 (.slice aL P.length cL) P) (hB : w0.heap.size ≤ B) (hb : Below w0.heap.size w0 w) : Lc B w aL (P.map (·.1)) := fun n y hy => by
  rw [List.getElem?_map] at hy
  cases hp : P[n]? with
  | none => rw [hp] at hy; cases hy
  | some p =>
    rw [hp] at hy
    injection hy with hy
    have hn := (List.getElem?_eq_some_iff.1 hp).1
    obtain ⟨a, c, e, -, hg⟩ := h.slice
    injection e with e _ _
    subst e
    obtain ⟨b, o, rfl, hbl, hc⟩ := hg.open (by omega)
    obtain ⟨sa, sc, hv, -, -, hsr⟩ := (h.sl p (List.mem_of_getElem? hp)).row
    subst hy
    refine ⟨b, o, sa, sc, rfl, fun w' hw => ?_⟩
    have hb' : Below w0.heap.size w0 w' := hb.trans (below_le hw hB)
    have c0 := hc n p hp 0 (by decide); have c1 := hc n p hp 1 (by decide)
    refine ⟨(hb'.cell (p := ⟨b, o + n * 2, none⟩) hbl).trans c0, (hb'.cell (p := ⟨b, o + n * 2 + 1, none⟩) hbl).trans (c1.trans ?_), hsr.later hb'⟩
    rw [← hv]
    rfl
theorem routine_any (B gb : Nat) (aT aL : Option Addr) (cT nL cL : Nat) (T : List Ty) (X : List Ex) (C : List In) (E : List Int) (n : Nat) (t : Ty) (w : World) (hl : C.length ≤ 700000000) (hE : E.length ≤ 1000000000) (hnL : T.length = nL) (hn : T[n]? = some t) (hok : Hid (tyOk t (n : Int) = true)) (HT : Hid (Tb B w aT T)) (HC : Hid (Tc B w aT T)) (HL : Hid (Lc B w aL (T.map (layP X)))) (h : Hid (Mb w B gb (.slice aT T.length cT) (.slice aL nL cL) C E [])) :
    Calls Try.prog 19 #[.pointer (some ⟨gb, 0, none⟩), .int .i64 (n : Int)] w fun e w' => e = .returned (.tuple #[]) ∧ Hid (Mb w' B gb (.slice aT T.length cT) (.slice aL nL cL) (C ++ rtnP T X t (n : Int) (C.length : Int)) (E ++ [(C.length : Int)]) []) ∧ Hid (Kp B w w') := by
  have h1 := hok.out
  unfold tyOk at h1
  simp only [Bool.and_eq_true] at h1
  have h2 := of_decide_eq_true h1.1.1
  obtain ⟨k, nn, el, ps⟩ := t
  simp only at h2
  have hk : k = 1 ∨ k = 2 ∨ k = 3 ∨ k = 4 ∨ k = 5 ∨ k = 6 ∨ k = 7 ∨ k = 8 := by omega
  rcases hk with rfl | rfl | rfl | rfl | rfl | rfl | rfl | rfl
  · exact routine_1 B gb aT aL cT nL cL T X C E n nn el ps w hl hE hnL hn hok HT HC HL h
  · exact routine_2 B gb aT aL cT nL cL T X C E n nn el ps w hl hE hnL hn hok HT HC HL h
  · exact routine_3 B gb aT aL cT nL cL T X C E n nn el ps w hl hE hnL hn hok HT HC HL h
  · exact routine_4 B gb aT aL cT nL cL T X C E n nn el ps w hl hE hnL hn hok HT HC HL h
  · exact routine_5 B gb aT aL cT nL cL T X C E n nn el ps w hl hE hnL hn hok HT HC HL h
  · exact routine_6 B gb aT aL cT nL cL T X C E n nn el ps w hl hE hnL hn hok HT HC HL h
  · exact routine_7 B gb aT aL cT nL cL T X C E n nn el ps w hl hE hnL hn hok HT HC HL h
  · exact routine_8 B gb aT aL cT nL cL T X C E n nn el ps w hl hE hnL hn hok HT HC HL h
set_option maxRecDepth 100000 in
set_option maxHeartbeats 4000000 in
theorem big_any (ax : Option Addr) (cx : Nat) (X : List Ex) (w : World) (hl : X.length ≤ 9223372036854775806) (hX : Hid (XRow w ax X)) :
    Calls Try.prog 17 #[.slice ax X.length cx] w fun e w' => e = .returned (.bool (bigX X)) ∧ Below w.heap.size w w' := by
  go_enter Try.func17, Try.ntmps17
  go_wp2_with fail
  go_loopw [7] (fun x7 wr => ∃ (i : Nat), i ≤ X.length ∧ x7 = .int .i64 (i : Int) ∧ Hid (bigX (X.take i) = false) ∧ Hid (Below w.heap.size w wr)) (fun x7 _ => X.length - (intOf x7).toNat)
  case atStart => exact ⟨0, Nat.zero_le _, rfl, hide_ rfl, hide_ (Below.refl _ _)⟩
  case round =>
    obtain ⟨i, hi, rfl, HF, HB⟩ := hrel
    generalize wr = wq at *
    by_cases hlt : i < X.length
    · have hlt' : (i : Int) < X.length := by omega
      have hx : X[i]? = some (X[i]'hlt) := List.getElem?_eq_getElem hlt
      obtain ⟨b, o, rfl, -, hc⟩ := (hX.out.later HB.out).open (by omega)
      have i0 := hc i _ hx 0 (by decide); have i1 := hc i _ hx 1 (by decide); have i2 := hc i _ hx 2 (by decide); have i3 := hc i _ hx 3 (by decide)
      have HS : Hid (bigX (X.take (i + 1)) = (bigX (X.take i) || decide (16777216 < (X[i]'hlt).m))) := hide_ (by unfold bigX; rw [List.take_succ_eq_append_getElem hlt, List.any_append]; simp only [List.any_cons, List.any_nil, Bool.or_false])
      have HA : Hid (decide (16777216 < (X[i]'hlt).m) = true → bigX X = true) := hide_ (fun h => by
        unfold bigX
        rw [List.any_eq_true]
        exact ⟨_, List.getElem_mem hlt, h⟩)
      generalize X[i]'hlt = x at *
      obtain ⟨xf, xl, xm, xd⟩ := x
      simp [exc] at i0 i1 i2 i3
      simp only at HS HA
      obtain ⟨wx, hwx⟩ : ∃ wx, wx = wq.alloc (.cells #[.bool xf, .int .i64 xl, .int .i64 xm, .int .i64 xd] 72) := ⟨_, rfl⟩
      have hBx : Below wq.heap.size wq wx := by rw [hwx]; exact below1 _ _
      have kx : Blk wx wq.heap.size 72 [.bool xf, .int .i64 xl, .int .i64 xm, .int .i64 xd] := by rw [hwx]; exact Blk.newA wq _ _
      have j2 := kx.cell 2
      simp at j2
      have HBx := hide_ (below_to HB.out hBx)
      clear hc hx kx hBx
      go_upto_region 4 with fail
      rw [← hwx]
      clear hwx i0 i1 i2 i3
      by_cases hm : 16777216 < xm
      · have HT := hide_ (HA.out (decide_eq_true hm))
        go_wp2_with fail
        go_ret
        exact ⟨by rw [HT.out]; rfl, HBx.out⟩
      · have HF2 : Hid (bigX (X.take (i + 1)) = false) := hide_ (by rw [HS.out, HF.out, decide_eq_false hm]; rfl)
        go_wp2_with fail
        go_roundw
        case rel => exact ⟨i + 1, by omega, by go_num, HF2, HBx⟩
        case measure => simp [intOf]; omega
    · obtain rfl : i = X.length := by omega
      have hF := HF.out
      rw [List.take_length] at hF
      have HFx := hide_ hF
      clear hF
      go_wp2_with fail
      go_ret
      exact ⟨by rw [HFx.out]; rfl, HB.out⟩
set_option maxRecDepth 100000 in
set_option maxHeartbeats 8000000 in
theorem decoder_any (a : Option Addr) (c : Nat) (T : List Ty) (ar : Option Addr) (cr : Nat) (R : List Rt) (w : World) (hn : T.length ≤ 1000000000) (hm : R.length ≤ 10000000000000) (hL : Hid (LensT T)) (hT : Hid (TRow w a T)) (hR : Hid (RRow w ar R)) :
    Calls Try.prog 8 #[.agg #[.slice a T.length c, .slice ar R.length cr]] w fun e w' => DcTo T R w e w' := by
  obtain ⟨w1, hw1⟩ : ∃ wx, wx = (w.alloc (.cells #[.slice a T.length c, .slice ar R.length cr] 25)).alloc (.cells #[.bool false, .slice none 0 0, .slice none 0 0] 31) := ⟨_, rfl⟩
  have hB1 : Below w.heap.size w w1 := by rw [hw1]; exact below2 _ _ _
  obtain ⟨ks, kp⟩ := blk2 w #[.slice a T.length c, .slice ar R.length cr] #[.bool false, .slice none 0 0, .slice none 0 0] 25 31
  rw [← hw1] at ks kp
  have KS := hide_ ks
  have KP := hide_ kp
  have HB1 := hide_ hB1
  have s0 := ks.cell 0; have s1 := ks.cell 1
  simp at s0 s1
  have HOf := hide_ (of_any a c T ar cr R w1 (by omega) hm hL (hide_ (hT.out.later hB1)) (hide_ (hR.out.later hB1)))
  have hsz : w.heap.size + 1 < w1.heap.size := kp.lt
  clear hB1 ks kp
  go_enter Try.func8, Try.ntmps8
  go_upto_region 1 with fail
  rw [← hw1]
  clear hw1
  go_wp2_with fail
  refine HOf.out.mono ?_; rintro e w2 hOf
  clear HOf
  rcases hOf with ⟨hne, rfl, hB2⟩ | ⟨hok, vx, rfl, hXo, hB2⟩
  · have HA : Hid (lowA T R = 92) := hide_ (by unfold lowA; rw [if_pos hne])
    have hE1 : ((chk T R).1 != 0) = true := by simpa using hne
    obtain ⟨vE, hvE⟩ : ∃ vE, (chk T R).1 = vE := ⟨_, rfl⟩
    rw [hvE] at hE1 ⊢
    have HBf := hide_ (below_to HB1.out hB2)
    have kp2 := KP.out.later hB2
    have p0 := kp2.cell 0; have p1 := kp2.cell 1; have p2 := kp2.cell 2
    have pz := fun i => kp2.frozen i
    simp at p0 p1 p2
    have HK2 := hide_ (setP kp2 (.bool false) (.slice none 0 0) (.slice none 0 0))
    clear hvE hne hB2 kp2
    go_wp2_with fail
    refine retPe rfl rfl rfl HK2.out ?_
    exact ⟨_, _, by rw [HA.out]; rfl, hide_ (by unfold lowX; rw [HA.out, if_neg (by decide)]; exact COwn.nil _ _), hide_ (by unfold lowY; rw [HA.out, if_neg (by decide)]; exact IOwn.nil _ _), HBf.out.trans ((upd3 _ _ _ _ _).below _ HBf.out.size (fun k hk => by omega))⟩
  · obtain ⟨ax, cx, hvx, -, -, hXr⟩ := hXo.row
    subst hvx
    have HOK := hide_ hok
    have HB2 := hide_ hB2
    have HXl := hide_ (extL_len T)
    have HBg := hide_ (big_any ax cx (extL T) w2 (by rw [HXl.out]; omega) (hide_ hXr))
    have HCk : Hid ((chk T R).1 = 0) := hide_ (by rw [hok.chk])
    clear hXo hok hXr hB2
    have HAd : Hid (lowA T R = if bigX (extL T) then 91 else if 1048576 < (lowC T (extL T) T.length).length then 4 else 0) := hide_ (by unfold lowA; rw [if_neg (by rw [HCk.out]; decide)])
    obtain ⟨X, hX⟩ : ∃ X, extL T = X := ⟨_, rfl⟩
    have HXe := hide_ hX
    rw [hX] at HXl HBg HAd ⊢
    clear hX
    obtain ⟨bg, hbg⟩ : ∃ b, bigX X = b := ⟨_, rfl⟩
    rw [hbg] at HBg HAd
    have HBe := hide_ hbg
    clear hbg
    go_upto_region 4 with fail
    clear s0 s1
    cases bg with
    | true =>
      have HA : Hid (lowA T R = 91) := hide_ (by rw [HAd.out, if_pos rfl])
      go_upto_region 5 with (go_at_call 17; refine HBg.out.mono ?_; rintro e w3 ⟨rfl, hB3⟩)
      have HBf := hide_ (below_to HB1.out (below_to HB2.out hB3))
      have kp2 := KP.out.later (below_to HB2.out hB3)
      have p0 := kp2.cell 0; have p1 := kp2.cell 1; have p2 := kp2.cell 2
      have pz := fun i => kp2.frozen i
      simp at p0 p1 p2
      have HK2 := hide_ (setP kp2 (.bool false) (.slice none 0 0) (.slice none 0 0))
      clear hB3 kp2
      go_wp2_with fail
      refine retPe rfl rfl rfl HK2.out ?_
      exact ⟨_, _, by rw [HA.out]; rfl, hide_ (by unfold lowX; rw [HA.out, if_neg (by decide)]; exact COwn.nil _ _), hide_ (by unfold lowY; rw [HA.out, if_neg (by decide)]; exact IOwn.nil _ _), HBf.out.trans ((upd3 _ _ _ _ _).below _ HBf.out.size (fun k hk => by omega))⟩
    | false =>
    simp only [if_neg Bool.false_ne_true] at HAd
    go_upto_region 6 with (go_at_call 17; refine HBg.out.mono ?_; rintro e w3 ⟨rfl, hB3⟩)
    have HB3 := hide_ (below_to HB1.out (below_to HB2.out hB3))
    have ks3 := KS.out.later (below_to HB2.out hB3)
    have KS3 := hide_ ks3
    have KP3 := hide_ (KP.out.later (below_to HB2.out hB3))
    have s0 := ks3.cell 0; have s1 := ks3.cell 1
    simp at s0 s1
    have HLo := hide_ (lof_any a c T ar cr R w3 (by omega) hm hL (hide_ (hT.out.later HB3.out)) (hide_ (hR.out.later HB3.out)))
    clear HBg ks3 hB3 HB2 HB1 KS KP
    go_wp2_with fail
    refine HLo.out.mono ?_; rintro e w4 hLo
    clear HLo
    rcases hLo with ⟨hne, -, -⟩ | ⟨-, vl, P, rfl, hPm, hPo, hB4⟩
    · exact absurd HCk.out hne
    obtain ⟨aL, cL, hvl, -, -⟩ := hPo.slice
    subst hvl
    have hPl : P.length = T.length := by have := congrArg List.length hPm; simpa using this
    have ks4 := KS3.out.later hB4
    have s0' := ks4.cell 0
    simp at s0'
    obtain ⟨w5, hw5⟩ : ∃ wx, wx = w4.alloc (.cells #[.slice a T.length c, .slice aL P.length cL, .slice none 0 0, .slice none 0 0] 67) := ⟨_, rfl⟩
    have hB5 : Below w4.heap.size w4 w5 := by rw [hw5]; exact below1 _ _
    have kb5 : Blk w5 w4.heap.size 67 [.slice a T.length c, .slice aL P.length cL, .slice none 0 0, .slice none 0 0] := by rw [hw5]; exact Blk.newA w4 _ _
    have HM5 : Hid (Mb w5 w4.heap.size w4.heap.size (.slice a T.length c) (.slice aL P.length cL) (lowC T X 0) (lowE T X 0) []) := hide_ ⟨Nat.le_refl _, ⟨_, _, kb5, COwn.nil _ _, IOwn.nil _ _, fun m hm => (by cases hm)⟩, fun m hm => (by cases hm), List.Pairwise.nil⟩
    have HB4 := hide_ (below_to HB3.out hB4)
    have HT5 : Hid (Tb w4.heap.size w5 a T) := hide_ (Tb.of (hT.out.later HB4.out) (Nat.le_refl _) hB5)
    have HC5 : Hid (Tc w4.heap.size w5 a T) := hide_ (Tc.of (hT.out.later HB4.out) (Nat.le_refl _) hB5)
    have HL5 : Hid (Lc w4.heap.size w5 aL (T.map (layP X))) := hide_ (by
      have := Lc.of hPo (Nat.le_refl _) hB5
      rw [hPm, HXe.out] at this
      exact this)
    have HPl := hide_ hPl
    have KS5 := hide_ (ks4.later hB5)
    have KP5 := hide_ ((KP3.out.later hB4).later hB5)
    have hz4 : w.heap.size + 1 < w4.heap.size := Nat.lt_of_lt_of_le KP3.out.lt hB4.size
    have hz5 : w4.heap.size ≤ w5.heap.size := hB5.size
    have HB5 := hide_ (below_to HB4.out hB5)
    have q0 := KS5.out.cell 0
    simp at q0
    clear s0 s1 ks4 hPm hPo hB4 hB5 kb5 hPl hsz KP3 KS3
    go_upto_region 10 with fail
    rw [← hw5]
    clear hw5 s0'
    have hwb := hz4
    generalize hgb : w4.heap.size = gb at *
    go_wp2_with fail
    go_loopw [36] (fun x36 wr => ∃ (i : Nat), i ≤ T.length ∧ x36 = .int .i64 (i : Int) ∧ Hid (Mb wr gb gb (.slice a T.length c) (.slice aL P.length cL) (lowC T X i) (lowE T X i) []) ∧ Hid (Kp gb w5 wr) ∧ Hid ((lowC T X i).length ≤ 1048576)) (fun x36 _ => T.length - (intOf x36).toNat)
    case atStart => exact ⟨0, Nat.zero_le _, rfl, HM5, hide_ (Kp.refl _ _), hide_ (by simp [lowC])⟩
    case round =>
      obtain ⟨i, hi, rfl, HMq, HKq, HLq⟩ := hrel
      generalize wr = wq at *
      clear HM5 q0
      by_cases hlt : i < T.length
      · have hlt' : (i : Int) < T.length := by omega
        have hx : T[i]? = some (T[i]'hlt) := List.getElem?_eq_getElem hlt
        have hok1 := HOK.out.ty i hlt
        rw [show T.getD i ty0 = T[i]'hlt by simp [List.getD, hlt]] at hok1
        have HRt := hide_ (routine_any gb gb a aL c P.length cL T X (lowC T X i) (lowE T X i) i (T[i]'hlt) wq (by have := HLq.out; omega) (by rw [lowE_len]; omega) HPl.out.symm hx (hide_ hok1) (hide_ (HT5.out.kp hz5 HKq.out)) (hide_ (HC5.out.kp hz5 HKq.out)) (hide_ (HL5.out.kp hz5 HKq.out)) HMq)
        have HCs : Hid (lowC T X i ++ rtnP T X (T[i]'hlt) (i : Int) ((lowC T X i).length : Int) = lowC T X (i + 1)) := hide_ (by show _ = lowC T X i ++ _; rw [tyA_at hx])
        rw [HCs.out, ← lowE_succ] at HRt
        have HMn := hide_ (lowC_mono T X (i + 1) (T.length - (i + 1)))
        rw [show i + 1 + (T.length - (i + 1)) = T.length by omega] at HMn
        clear hx hok1 HCs
        go_upto_region 14 with (go_at_call 19; refine HRt.out.mono ?_; rintro e w7 ⟨rfl, HM7, HK7⟩)
        clear HRt HMq
        obtain ⟨vC, vE, kb7, hc7, -, -⟩ := HM7.out.bd
        obtain ⟨ac, cc, rfl, -⟩ := hc7.row
        have c2 := kb7.cell 2
        simp at c2
        have HK8 := hide_ (HKq.out.trans HK7.out)
        clear kb7 hc7 HK7 HKq
        by_cases hbig : 1048576 < (lowC T X (i + 1)).length
        · have hbig' : (1048576 : Int) < ((lowC T X (i + 1)).length : Int) := by omega
          have HA : Hid (lowA T R = 4) := hide_ (by rw [HAd.out, if_pos (by have := HMn.out; omega)])
          have hBf := HB5.out.trans ((below_le (HK8.out.below hz5) (by omega)) : Below w.heap.size w5 w7)
          have HBf := hide_ hBf
          have kp2 := KP5.out.below (HK8.out.below hz5) hwb
          have p0 := kp2.cell 0; have p1 := kp2.cell 1; have p2 := kp2.cell 2
          have pz := fun i => kp2.frozen i
          simp at p0 p1 p2
          have HK2 := hide_ (setP kp2 (.bool false) (.slice none 0 0) (.slice none 0 0))
          clear hBf kp2 hbig
          go_wp2_with fail
          refine retPe rfl rfl rfl HK2.out ?_
          exact ⟨_, _, by rw [HA.out]; rfl, hide_ (by unfold lowX; rw [HA.out, if_neg (by decide)]; exact COwn.nil _ _), hide_ (by unfold lowY; rw [HA.out, if_neg (by decide)]; exact IOwn.nil _ _), HBf.out.trans ((upd3 _ _ _ _ _).below _ HBf.out.size (fun k hk => by omega))⟩
        · have hbig' : ¬ (1048576 : Int) < ((lowC T X (i + 1)).length : Int) := by omega
          have HLn : Hid ((lowC T X (i + 1)).length ≤ 1048576) := hide_ (by omega)
          clear hbig
          go_wp2_with fail
          go_roundw
          case rel => exact ⟨i + 1, by omega, by go_num, HM7, HK8, HLn⟩
          case measure => simp [intOf]; omega
      · obtain rfl : i = T.length := by omega
        have HA : Hid (lowA T R = 0) := hide_ (by rw [HAd.out, if_neg (by have := HLq.out; omega)])
        obtain ⟨vC, vE, kb7, hc7, he7, -⟩ := HMq.out.bd
        obtain ⟨ac, cc, hvc, -⟩ := hc7.row
        obtain ⟨ae, ce, hve⟩ := he7.slice
        subst hvc hve
        have c2 := kb7.cell 2; have c3 := kb7.cell 3
        simp at c2 c3
        have hBf : Below w.heap.size w wq := HB5.out.trans (below_le (HKq.out.below hz5) (by omega))
        have HBf := hide_ hBf
        have kp2 := KP5.out.below (HKq.out.below hz5) hwb
        have p0 := kp2.cell 0; have p1 := kp2.cell 1; have p2 := kp2.cell 2
        have pz := fun i => kp2.frozen i
        simp at p0 p1 p2
        have HK2 := hide_ (setP kp2 (.bool false) (.slice ac (lowC T X T.length).length cc) (.slice ae (lowE T X T.length).length ce))
        have HCf : Hid (COwn (((wq.setCell ⟨w.heap.size + 1, 0, none⟩ (.bool false)).setCell ⟨w.heap.size + 1, 1, none⟩ (.slice ac (lowC T X T.length).length cc)).setCell ⟨w.heap.size + 1, 2, none⟩ (.slice ae (lowE T X T.length).length ce)) w.heap.size (.slice ac (lowC T X T.length).length cc) (lowX T R)) := hide_ (by
          unfold lowX
          rw [HA.out, if_pos rfl, HXe.out]
          exact own_base (ownS_upd hc7 (upd3 _ _ _ _ _) (fun k e hk => by subst hk; exact notC hc7 kp2 (by decide) e)) (by omega))
        have HEf : Hid (IOwn (((wq.setCell ⟨w.heap.size + 1, 0, none⟩ (.bool false)).setCell ⟨w.heap.size + 1, 1, none⟩ (.slice ac (lowC T X T.length).length cc)).setCell ⟨w.heap.size + 1, 2, none⟩ (.slice ae (lowE T X T.length).length ce)) w.heap.size (.slice ae (lowE T X T.length).length ce) (lowY T R)) := hide_ (by
          unfold lowY
          rw [HA.out, if_pos rfl, HXe.out]
          exact own_base (he7.upd (upd3 _ _ _ _ _) (fun k e hk => by subst hk; exact notI he7 kp2 (by decide) e)) (by omega))
        clear hBf kp2 kb7 hc7 he7
        go_wp2_with fail
        refine retPe rfl rfl rfl HK2.out ?_
        exact ⟨_, _, by rw [HA.out]; rfl, HCf, HEf, HBf.out.trans ((upd3 _ _ _ _ _).below _ HBf.out.size (fun k hk => by omega))⟩
end Go.Proofs.Ytepmgbfdmbogiaa
