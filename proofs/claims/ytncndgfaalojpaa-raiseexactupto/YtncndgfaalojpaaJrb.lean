import Derived.Test.YtncndgfaalojpaaRwp
import Derived.Test.YtncndgfaalojpaaZo
import Derived.Test.YtncndgfaalojpaaZba
import Derived.Test.YtncndgfaalojpaaRwf
import Derived.Test.YtncndgfaalojpaaZp
import Derived.Laws.EntriesVeiled
import Derived.Test.YtncndgfaalojpaaRxc
import Derived.Test.YtncndgfaalojpaaJre
import Derived.Test.YtncndgfaalojpaaJrd
/- Raise, plain: a routine hangs on the types that it is made of alone; of fewer types a front. -/
namespace Go.Proofs.Ytncndgfaalojpaa
open Go.RowKit
set_option linter.unusedVariables false

theorem rowP_congr {X X' : List Ex} {ps : List Pt} (h : ∀ p ∈ ps, exAt X p.ty = exAt X' p.ty) : rowP X ps = rowP X' ps := by
  have key : ∀ (ps : List Pt) (y : Ly), (∀ p ∈ ps, exAt X p.ty = exAt X' p.ty) → ps.foldl (addF X) y = ps.foldl (addF X') y := fun ps => by
    induction ps with
    | nil => intro y _; rfl
    | cons p ps ih =>
      intro y h
      rw [List.foldl_cons, List.foldl_cons]
      have e : addF X y p = addF X' y p := by unfold addF; rw [h p (List.mem_cons_self ..)]
      rw [e]
      exact ih _ (fun q hq => h q (List.mem_cons_of_mem _ hq))
  exact key ps _ h
theorem ptA_mem {ps : List Pt} {j : Nat} (h : j < ps.length) : ptA ps j ∈ ps := by
  unfold ptA
  rw [List.getD_eq_getElem?_getD, List.getElem?_eq_getElem h]
  exact List.getElem_mem h
theorem zfB_congr {T T' : List Ty} {ps : List Pt} (l : List Sl) (h : ∀ p ∈ ps, tyA T p.ty = tyA T' p.ty) : ∀ m, m ≤ ps.length → zfB T ps l m = zfB T' ps l m
  | 0, _ => rfl
  | m + 1, hm => by
    rw [zfB_succ, zfB_succ, zfB_congr l h m (by omega)]
    unfold zfO
    rw [h _ (ptA_mem (by omega))]
theorem zrP_congr {T T' : List Ty} {X X' : List Ex} {t : Ty} {i : Nat} (b : Int) (hok : tyOk t (i : Int) = true) (h : ∀ e : Int, 0 ≤ e → e < (i : Int) → tyA T e = tyA T' e ∧ exAt X e = exAt X' e) : zrP T X t b = zrP T' X' t b := by
  have hel : hasE t.k = true → 0 ≤ t.e ∧ t.e < (i : Int) := fun hk => by
    have := (tyOk_parts hok).2.1
    unfold elemOk at this
    rw [if_pos hk] at this
    exact of_decide_eq_true this
  have hpt : ∀ p ∈ t.ps, tyA T p.ty = tyA T' p.ty ∧ exAt X p.ty = exAt X' p.ty := fun p hp => by
    obtain ⟨j, hj, rfl⟩ := List.getElem_of_mem hp
    obtain ⟨h0, h1⟩ := tyOk_part hok (List.getElem?_eq_getElem hj)
    exact h _ h0 h1
  have hrow : hasE t.k = true → zrI T X t b = zrI T' X' t b := fun hk => by
    obtain ⟨e0, e1⟩ := hel hk
    obtain ⟨a1, a2⟩ := h _ e0 e1
    unfold zrI zrF
    rw [a1, a2]
  unfold zrP
  congr 1
  unfold zbP
  by_cases h1 : t.k = 1
  · rw [if_pos h1, if_pos h1]
  rw [if_neg h1, if_neg h1]
  by_cases h2 : t.k = 2
  · rw [if_pos h2, if_pos h2]
  rw [if_neg h2, if_neg h2]
  by_cases h3 : t.k = 3
  · rw [if_pos h3, if_pos h3]
  rw [if_neg h3, if_neg h3]
  by_cases h4 : t.k = 4
  · rw [if_pos h4, if_pos h4, hrow (by unfold hasE; rw [h4]; decide)]
  rw [if_neg h4, if_neg h4]
  by_cases h5 : t.k = 5
  · rw [if_pos h5, if_pos h5, hrow (by unfold hasE; rw [h5]; decide)]
  rw [if_neg h5, if_neg h5]
  by_cases h6 : t.k = 6
  · rw [if_pos h6, if_pos h6]
  rw [if_neg h6, if_neg h6]
  by_cases h7 : t.k = 7
  · rw [if_pos h7, if_pos h7]
  rw [if_neg h7, if_neg h7]
  by_cases h8 : t.k = 8
  · rw [if_pos h8, if_pos h8]
    have hl : layP X t = layP X' t := by unfold layP; rw [if_pos h8, if_pos h8, rowP_congr (fun p hp => (hpt p hp).2)]
    rw [hl]
    unfold zfP
    rw [zfB_congr _ (fun p hp => (hpt p hp).1) _ (Nat.le_refl _)]
  rw [if_neg h8, if_neg h8]
theorem tyA_take {T : List Ty} {n : Nat} {e : Int} (h0 : 0 ≤ e) (h1 : e < (n : Int)) : tyA (T.take n) e = tyA T e := by
  unfold tyA
  rw [List.getD_eq_getElem?_getD, List.getD_eq_getElem?_getD, List.getElem?_take, if_pos (by omega)]
theorem getD_take {T : List Ty} {n j : Nat} (h : j < n) : (T.take n).getD j ty0 = T.getD j ty0 := by
  rw [List.getD_eq_getElem?_getD, List.getD_eq_getElem?_getD, List.getElem?_take, if_pos h]
theorem zC_take {T : List Ty} {R : List Rt} (hS : OkS T R) {n : Nat} (hn : n ≤ T.length) : ∀ i, i ≤ n → zC (T.take n) (extL (T.take n)) i = zC T (extL T) i
  | 0, _ => rfl
  | i + 1, hi => by
    have ih := zC_take hS hn i (by omega)
    show zC (T.take n) _ i ++ _ = zC T _ i ++ _
    rw [ih, tyA_take (by omega) (by omega)]
    have hok := hS.ty i (by omega)
    have e : tyA T (i : Int) = T.getD i ty0 := by unfold tyA; rw [Int.toNat_natCast]
    rw [e]
    rw [zrP_congr _ hok (fun e h0 h1 => ⟨tyA_take h0 (by omega), exAt_take hn h0 (by omega)⟩)]
theorem okS_cut {T : List Ty} {R : List Rt} (hS : OkS T R) {n : Nat} (hn : n ≤ T.length) : OkS (T.take n) [] := by
  have hl : (T.take n).length = n := by rw [List.length_take]; omega
  refine ⟨fun j hj => ?_, fun j hj => ?_, fun j hj => (by cases hj)⟩
  · rw [hl] at hj
    rw [getD_take hj]
    exact hS.ty j (by omega)
  · rw [hl] at hj
    rw [depL_take T hj hn]
    exact hS.dep j (by omega)
theorem zA_ok {T : List Ty} {R : List Rt} (h : zA T R = 0) : OkS T R ∧ bigX (extL T) = false ∧ (zC T (extL T) T.length).length ≤ 1048576 := by
  unfold zA at h
  by_cases h1 : (chk T R).1 ≠ 0
  · rw [if_pos h1] at h; cases h
  rw [if_neg h1] at h
  by_cases h2 : bigX (extL T) = true
  · rw [if_pos h2] at h; cases h
  rw [if_neg h2] at h
  by_cases h3 : 1048576 < (zC T (extL T) T.length).length
  · rw [if_pos h3] at h; cases h
  exact ⟨okS_of (by omega), by simpa using h2, by omega⟩
theorem zA_of {T : List Ty} {R : List Rt} (h1 : OkS T R) (h2 : bigX (extL T) = false) (h3 : (zC T (extL T) T.length).length ≤ 1048576) : zA T R = 0 := by
  unfold zA
  rw [if_neg (by rw [h1.chk]; simp), if_neg (by rw [h2]; decide), if_neg (by omega)]
/-- Of fewer types the program is a front. -/
theorem z_front {T : List Ty} {R : List Rt} (h : zA T R = 0) {n : Nat} (hn : n ≤ T.length) : zA (T.take n) [] = 0 ∧ zX (T.take n) [] = zC T (extL T) n ∧ zY (T.take n) [] = zE T (extL T) n := by
  obtain ⟨hS, hb, hl⟩ := zA_ok h
  have hS2 := okS_cut hS hn
  have hln : (T.take n).length = n := by rw [List.length_take]; omega
  have hc := zC_take hS hn
  have hm := zC_mono T (extL T) n (T.length - n)
  rw [show n + (T.length - n) = T.length by omega] at hm
  have hA : zA (T.take n) [] = 0 := zA_of hS2 (by
    rw [extL_take T n hn]
    unfold bigX at hb ⊢
    rw [List.any_eq_false] at hb ⊢
    exact fun x hx => hb x (List.mem_of_mem_take hx)) (by rw [hln, hc n (Nat.le_refl _)]; omega)
  refine ⟨hA, ?_, ?_⟩
  · unfold zX
    rw [if_pos hA, hln, hc n (Nat.le_refl _)]
  · unfold zY
    rw [if_pos hA, hln]
    unfold zE
    refine List.map_congr_left (fun j hj => ?_)
    rw [hc j (by have := List.mem_range.1 hj; omega)]
theorem zE_at {T : List Ty} {X : List Ex} {n i : Nat} (h : i < n) : (zE T X n)[i]? = some ((zC T X i).length : Int) := by
  unfold zE
  rw [List.getElem?_map, List.getElem?_range h]
  rfl
theorem zC_at {T : List Ty} {X : List Ex} {m i : Nat} (h1 : 1 ≤ i) (hm : i ≤ m) : (zC T X m)[(zC T X i).length - 1]? = some ⟨20, 0, 0, 0⟩ ∧ 1 ≤ (zC T X i).length := by
  obtain ⟨j, rfl⟩ : ∃ j, i = j + 1 := ⟨i - 1, by omega⟩
  have h2 := zC_lt T X j
  obtain ⟨u, hu⟩ := zC_front T X (j + 1) (m - (j + 1))
  rw [show j + 1 + (m - (j + 1)) = m by omega] at hu
  refine ⟨?_, by omega⟩
  rw [← hu, List.getElem?_append_left (by omega)]
  exact zC_last T X j
end Go.Proofs.Ytncndgfaalojpaa
/- Raise: Encoder. -/
namespace Go.Proofs.Ytncndgfaalojpaa
open Go.RowKit
set_option linter.unusedVariables false

def EnTo (T : List Ty) (R : List Rt) (w : World) (e : Ending) (w' : World) : Prop := ∃ vC vE, e = .returned (.tuple #[.agg #[.bool (decide (zA T R = 0)), vC, vE], .int .i64 (zA T R)]) ∧ Hid (COwn w' w.heap.size vC (zX T R)) ∧ Hid (IOwn w' w.heap.size vE (zY T R)) ∧ Below w.heap.size w w'
set_option maxRecDepth 100000 in
set_option maxHeartbeats 4000000 in
theorem behind_any (gp : Nat) (w : World) : Calls Try.prog 14 #[.pointer (some ⟨gp, 0, none⟩)] w fun e w' => e = .returned (fnL w.heap.size) ∧ w.alloc (.cells #[.pointer (some ⟨gp, 0, none⟩)] 53) = w' := by
  have hmf : ∀ (fn : Fn) (first cap : Array Value) (w : World), (Instr.makeFunc fn first cap).run Try.prog w = .ok (.func fn first cap) w := fun _ _ _ _ => rfl
  go_enter Try.func14, Try.ntmps14
  go_wp2
  go_ret
  exact ⟨rfl, rfl⟩
theorem retPe {fn : Func} {p a : Tmp} (h : fn.results = #[.cell p 30, .tmp a]) {R : Ending → World → Prop} {tmps : Array Value} {g : Nat} {w : World} {x y z u : Value} (hp : tmps.getD p undef = .pointer (some ⟨g, 0, none⟩)) (ha : tmps.getD a undef = u) (hK : Blk w g 30 [x, y, z]) (hR : R (.returned (.tuple #[.agg #[x, y, z], u])) w) :
    bodyPost Try.prog fn R Exit.ret ⟨tmps, []⟩ w := by
  refine bodyPost_ret (v := .tuple #[.agg #[x, y, z], u]) ?_ rfl hR
  have hl := run_loadVar_row w g 30 30 #[x, y, z] (0, 0) _ (show w.heap[g]? = some (.cells #[x, y, z] 30 (0, 0)) from hK) Try.underlying30 rfl (by show _ = some 3; kernel_rfl)
  have hp' : tmps[p]?.getD undef = .pointer (some ⟨g, 0, none⟩) := by simpa using hp
  have ha' : tmps[a]?.getD undef = u := by simpa using ha
  simp only [results, h]
  simp [hp', ha', asAddr, hl]
theorem setP {w : World} {g : Nat} {t : TypeId} {x y z : Value} (h : Blk w g t [x, y, z]) (x' y' z' : Value) : Blk (((w.setCell ⟨g, 0, none⟩ x').setCell ⟨g, 1, none⟩ y').setCell ⟨g, 2, none⟩ z') g t [x', y', z'] := by
  have := ((h.set 0 x').set 1 y').set 2 z'
  simpa using this
theorem upd3 (w : World) (g : Nat) (x y z : Value) : Upd (fun k => k = g) w (((w.setCell ⟨g, 0, none⟩ x).setCell ⟨g, 1, none⟩ y).setCell ⟨g, 2, none⟩ z) := (((Upd.refl (fun k => k = g) w).set _ _ (.inl rfl)).set _ _ (.inl rfl)).set _ _ (.inl rfl)
theorem Lc.of {w0 w : World} {B B0 cL : Nat} {aL : Option Addr} {P : List (Ly × Value)} (h : LOwn w0 B0 (.slice aL P.length cL) P) (hB : w0.heap.size ≤ B) (hb : Below w0.heap.size w0 w) : Lc B w aL (P.map (·.1)) := fun n y hy => by
  rw [List.getElem?_map] at hy
  cases hp : P[n]? with
  | none => rw [hp] at hy; cases hy
  | some p =>
    rw [hp] at hy
    injection hy with hy
    have hn := (List.getElem?_eq_some_iff.1 hp).1
    obtain ⟨a, c, e, -, hg⟩ := h.slice
    injection e with e _ _
    subst e
    obtain ⟨b, o, rfl, hbl, hc⟩ := hg.open (by omega)
    obtain ⟨sa, sc, hv, -, -, hsr⟩ := (h.sl p (List.mem_of_getElem? hp)).row
    subst hy
    refine ⟨b, o, sa, sc, rfl, fun w' hw => ?_⟩
    have hb' : Below w0.heap.size w0 w' := hb.trans (below_le hw hB)
    have c0 := hc n p hp 0 (by decide); have c1 := hc n p hp 1 (by decide)
    refine ⟨(hb'.cell (p := ⟨b, o + n * 2, none⟩) hbl).trans c0, (hb'.cell (p := ⟨b, o + n * 2 + 1, none⟩) hbl).trans (c1.trans ?_), hsr.later hb'⟩
    rw [← hv]
    rfl
set_option maxRecDepth 100000 in
set_option maxHeartbeats 4000000 in
theorem big_any (ax : Option Addr) (cx : Nat) (X : List Ex) (w : World) (hl : X.length ≤ 9223372036854775806) (hX : Hid (XRow w ax X)) :
    Calls Try.prog 12 #[.slice ax X.length cx] w fun e w' => e = .returned (.bool (bigX X)) ∧ Below w.heap.size w w' := by
  go_enter Try.func12, Try.ntmps12
  go_wp2_with fail
  go_loopw [7] (fun x7 wr => ∃ (i : Nat), i ≤ X.length ∧ x7 = .int .i64 (i : Int) ∧ Hid (bigX (X.take i) = false) ∧ Hid (Below w.heap.size w wr)) (fun x7 _ => X.length - (intOf x7).toNat)
  case atStart => exact ⟨0, Nat.zero_le _, rfl, hide_ rfl, hide_ (Below.refl _ _)⟩
  case round =>
    obtain ⟨i, hi, rfl, HF, HB⟩ := hrel
    generalize wr = wq at *
    by_cases hlt : i < X.length
    · have hlt' : (i : Int) < X.length := by omega
      have hx : X[i]? = some (X[i]'hlt) := List.getElem?_eq_getElem hlt
      obtain ⟨b, o, rfl, -, hc⟩ := (hX.out.later HB.out).open (by omega)
      have i0 := hc i _ hx 0 (by decide); have i1 := hc i _ hx 1 (by decide); have i2 := hc i _ hx 2 (by decide); have i3 := hc i _ hx 3 (by decide)
      have HS : Hid (bigX (X.take (i + 1)) = (bigX (X.take i) || decide (16777216 < (X[i]'hlt).m))) := hide_ (by unfold bigX; rw [List.take_succ_eq_append_getElem hlt, List.any_append]; simp only [List.any_cons, List.any_nil, Bool.or_false])
      have HA : Hid (decide (16777216 < (X[i]'hlt).m) = true → bigX X = true) := hide_ (fun h => by
        unfold bigX
        rw [List.any_eq_true]
        exact ⟨_, List.getElem_mem hlt, h⟩)
      generalize X[i]'hlt = x at *
      obtain ⟨xf, xl, xm, xd⟩ := x
      simp [exc] at i0 i1 i2 i3
      simp only at HS HA
      obtain ⟨wx, hwx⟩ : ∃ wx, wx = wq.alloc (.cells #[.bool xf, .int .i64 xl, .int .i64 xm, .int .i64 xd] 63) := ⟨_, rfl⟩
      have hBx : Below wq.heap.size wq wx := by rw [hwx]; exact below1 _ _
      have kx : Blk wx wq.heap.size 63 [.bool xf, .int .i64 xl, .int .i64 xm, .int .i64 xd] := by rw [hwx]; exact Blk.newA wq _ _
      have j2 := kx.cell 2
      simp at j2
      have HBx := hide_ (below_to HB.out hBx)
      clear hc hx kx hBx
      go_upto_region 4 with fail
      rw [← hwx]
      clear hwx i0 i1 i2 i3
      by_cases hm : 16777216 < xm
      · have HT := hide_ (HA.out (decide_eq_true hm))
        go_wp2_with fail
        go_ret
        exact ⟨by rw [HT.out]; rfl, HBx.out⟩
      · have HF2 : Hid (bigX (X.take (i + 1)) = false) := hide_ (by rw [HS.out, HF.out, decide_eq_false hm]; rfl)
        go_wp2_with fail
        go_roundw
        case rel => exact ⟨i + 1, by omega, by go_num, HF2, HBx⟩
        case measure => simp [intOf]; omega
    · obtain rfl : i = X.length := by omega
      have hF := HF.out
      rw [List.take_length] at hF
      have HFx := hide_ hF
      clear hF
      go_wp2_with fail
      go_ret
      exact ⟨by rw [HFx.out]; rfl, HB.out⟩
set_option maxRecDepth 100000 in
set_option maxHeartbeats 8000000 in
theorem encoder_any (a : Option Addr) (c : Nat) (T : List Ty) (ar : Option Addr) (cr : Nat) (R : List Rt) (w : World) (hn : T.length ≤ 3000000000000) (hm : R.length ≤ 10000000000000) (hL : Hid (LensT T)) (hT : Hid (TRow w a T)) (hR : Hid (RRow w ar R)) :
    Calls Try.prog 6 #[.agg #[.slice a T.length c, .slice ar R.length cr]] w fun e w' => EnTo T R w e w' := by
  obtain ⟨w1, hw1⟩ : ∃ wx, wx = (w.alloc (.cells #[.slice a T.length c, .slice ar R.length cr] 25)).alloc (.cells #[.bool false, .slice none 0 0, .slice none 0 0] 30) := ⟨_, rfl⟩
  have hB1 : Below w.heap.size w w1 := by rw [hw1]; exact below2 _ _ _
  obtain ⟨ks, kp⟩ := blk2 w #[.slice a T.length c, .slice ar R.length cr] #[.bool false, .slice none 0 0, .slice none 0 0] 25 30
  rw [← hw1] at ks kp
  have KS := hide_ ks
  have KP := hide_ kp
  have HB1 := hide_ hB1
  have s0 := ks.cell 0; have s1 := ks.cell 1
  simp at s0 s1
  have HOf := hide_ (of_any a c T ar cr R w1 (by omega) hm hL (hide_ (hT.out.later hB1)) (hide_ (hR.out.later hB1)))
  have hsz : w.heap.size + 1 < w1.heap.size := kp.lt
  clear hB1 ks kp
  go_enter Try.func6, Try.ntmps6
  go_upto_region 1 with fail
  rw [← hw1]
  clear hw1
  go_wp2_with fail
  refine HOf.out.mono ?_; rintro e w2 hOf
  clear HOf
  rcases hOf with ⟨hne, rfl, hB2⟩ | ⟨hok, vx, rfl, hXo, hB2⟩
  · have HA : Hid (zA T R = 92) := hide_ (by unfold zA; rw [if_pos hne])
    have hE1 : ((chk T R).1 != 0) = true := by simpa using hne
    obtain ⟨vE, hvE⟩ : ∃ vE, (chk T R).1 = vE := ⟨_, rfl⟩
    rw [hvE] at hE1 ⊢
    have HBf := hide_ (below_to HB1.out hB2)
    have kp2 := KP.out.later hB2
    have p0 := kp2.cell 0; have p1 := kp2.cell 1; have p2 := kp2.cell 2
    have pz := fun i => kp2.frozen i
    simp at p0 p1 p2
    have HK2 := hide_ (setP kp2 (.bool false) (.slice none 0 0) (.slice none 0 0))
    clear hvE hne hB2 kp2
    go_wp2_with fail
    refine retPe rfl rfl rfl HK2.out ?_
    exact ⟨_, _, by rw [HA.out]; rfl, hide_ (by unfold zX; rw [HA.out, if_neg (by decide)]; exact COwn.nil _ _), hide_ (by unfold zY; rw [HA.out, if_neg (by decide)]; exact IOwn.nil _ _), HBf.out.trans ((upd3 _ _ _ _ _).below _ HBf.out.size (fun k hk => by omega))⟩
  · obtain ⟨ax, cx, hvx, -, -, hXr⟩ := hXo.row
    subst hvx
    have HOK := hide_ hok
    have HB2 := hide_ hB2
    have HXl := hide_ (extL_len T)
    have HBg := hide_ (big_any ax cx (extL T) w2 (by rw [HXl.out]; omega) (hide_ hXr))
    have HCk : Hid ((chk T R).1 = 0) := hide_ (by rw [hok.chk])
    clear hXo hok hXr hB2
    have HAd : Hid (zA T R = if bigX (extL T) then 91 else if 1048576 < (zC T (extL T) T.length).length then 4 else 0) := hide_ (by unfold zA; rw [if_neg (by rw [HCk.out]; decide)])
    obtain ⟨X, hX⟩ : ∃ X, extL T = X := ⟨_, rfl⟩
    have HXe := hide_ hX
    rw [hX] at HXl HBg HAd ⊢
    clear hX
    obtain ⟨bg, hbg⟩ : ∃ b, bigX X = b := ⟨_, rfl⟩
    rw [hbg] at HBg HAd
    have HBe := hide_ hbg
    clear hbg
    go_upto_region 4 with fail
    clear s0 s1
    cases bg with
    | true =>
      have HA : Hid (zA T R = 91) := hide_ (by rw [HAd.out, if_pos rfl])
      go_upto_region 5 with (go_at_call 12; refine HBg.out.mono ?_; rintro e w3 ⟨rfl, hB3⟩)
      have HBf := hide_ (below_to HB1.out (below_to HB2.out hB3))
      have kp2 := KP.out.later (below_to HB2.out hB3)
      have p0 := kp2.cell 0; have p1 := kp2.cell 1; have p2 := kp2.cell 2
      have pz := fun i => kp2.frozen i
      simp at p0 p1 p2
      have HK2 := hide_ (setP kp2 (.bool false) (.slice none 0 0) (.slice none 0 0))
      clear hB3 kp2
      go_wp2_with fail
      refine retPe rfl rfl rfl HK2.out ?_
      exact ⟨_, _, by rw [HA.out]; rfl, hide_ (by unfold zX; rw [HA.out, if_neg (by decide)]; exact COwn.nil _ _), hide_ (by unfold zY; rw [HA.out, if_neg (by decide)]; exact IOwn.nil _ _), HBf.out.trans ((upd3 _ _ _ _ _).below _ HBf.out.size (fun k hk => by omega))⟩
    | false =>
    simp only [if_neg Bool.false_ne_true] at HAd
    go_upto_region 6 with (go_at_call 12; refine HBg.out.mono ?_; rintro e w3 ⟨rfl, hB3⟩)
    have HB3 := hide_ (below_to HB1.out (below_to HB2.out hB3))
    have ks3 := KS.out.later (below_to HB2.out hB3)
    have KS3 := hide_ ks3
    have KP3 := hide_ (KP.out.later (below_to HB2.out hB3))
    have s0 := ks3.cell 0; have s1 := ks3.cell 1
    simp at s0 s1
    have HLo := hide_ (lof_any a c T ar cr R w3 (by omega) hm hL (hide_ (hT.out.later HB3.out)) (hide_ (hR.out.later HB3.out)))
    clear HBg ks3 hB3 HB2 HB1 KS KP
    go_wp2_with fail
    refine HLo.out.mono ?_; rintro e w4 hLo
    clear HLo
    rcases hLo with ⟨hne, -, -⟩ | ⟨-, vl, P, rfl, hPm, hPo, hB4⟩
    · exact absurd HCk.out hne
    obtain ⟨aL, cL, hvl, -, -⟩ := hPo.slice
    subst hvl
    have hPl : P.length = T.length := by have := congrArg List.length hPm; simpa using this
    have ks4 := KS3.out.later hB4
    have s0' := ks4.cell 0
    simp at s0'
    obtain ⟨w5, hw5⟩ : ∃ wx, wx = w4.alloc (.cells #[.bool true, .slice none 0 0, .slice none 0 0] 30) := ⟨_, rfl⟩
    have hB5 : Below w4.heap.size w4 w5 := by rw [hw5]; exact below1 _ _
    have kb5 : Blk w5 w4.heap.size 30 [.bool true, .slice none 0 0, .slice none 0 0] := by rw [hw5]; exact Blk.newA w4 _ _
    have HB4 := hide_ (below_to HB3.out hB4)
    have HC5 : Hid (Tc w4.heap.size w5 a T) := hide_ (Tc.of (hT.out.later HB4.out) (Nat.le_refl _) hB5)
    have HL5 : Hid (Lc w4.heap.size w5 aL (T.map (layP X))) := hide_ (by
      have := Lc.of hPo (Nat.le_refl _) hB5
      rw [hPm, HXe.out] at this
      exact this)
    have HPl := hide_ hPl
    have KS5 := hide_ (ks4.later hB5)
    have KP5 := hide_ ((KP3.out.later hB4).later hB5)
    have hz4 : w.heap.size + 1 < w4.heap.size := Nat.lt_of_lt_of_le KP3.out.lt hB4.size
    have hz5 : w4.heap.size ≤ w5.heap.size := hB5.size
    have HB5 := hide_ (below_to HB4.out hB5)
    have HLb := hide_ (fun w' => behind_any w4.heap.size w')
    have HSS : Hid (∀ w', Below w5.heap.size w5 w' → (fun w' => w'.cell? ⟨w.heap.size, 0, none⟩ = some (.slice a T.length c)) w') := hide_ (fun w' hb => by have := (KS5.out.later hb).cell 0; simpa using this)
    have hmk : ∀ (w6 : World) (gr gb : Nat), Below w5.heap.size w5 w6 → Blk w6 gr 55 [.slice a T.length c, .slice aL P.length cL, fnL gb] → Blk w6 gb 53 [.pointer (some ⟨w4.heap.size, 0, none⟩)] → Rz w6 w4.heap.size gr w4.heap.size gb (.slice a T.length c) (.slice aL P.length cL) (zC T X 0) (zE T X 0) := fun w6 gr gb h1 h2 h3 => ⟨Nat.le_refl _, h2, h3, _, _, kb5.later h1, COwn.nil _ _, IOwn.nil _ _⟩
    have HA : Hid (∃ gr gb w6, w6 = ((w5.alloc (.cells #[.pointer (some ⟨w4.heap.size, 0, none⟩)] 53)).alloc (.cells #[.slice a T.length c, .slice aL P.length cL, fnL w5.heap.size] 55)).drew ∧ Value.pointer (some ⟨w5.heap.size + 1, 0, none⟩) = .pointer (some ⟨gr, 0, none⟩) ∧ Hid (Rz w6 w4.heap.size gr w4.heap.size gb (.slice a T.length c) (.slice aL P.length cL) (zC T X 0) (zE T X 0)) ∧ Hid (Below w5.heap.size w5 w6)) := hide_ (by
      obtain ⟨k1, k2⟩ := blk2 w5 #[.pointer (some ⟨w4.heap.size, 0, none⟩)] #[.slice a T.length c, .slice aL P.length cL, fnL w5.heap.size] 53 55
      exact ⟨_, w5.heap.size, _, rfl, rfl, hide_ (hmk _ _ _ (Below.drew (below2 w5 _ _)) k2.drew k1.drew), hide_ (Below.drew (below2 w5 _ _))⟩)
    have HB : Hid (∃ gr gb w6, w6 = ((w5.alloc (.cells #[.slice a T.length c, .slice aL P.length cL, fnL (w5.heap.size + 1)] 55)).alloc (.cells #[.pointer (some ⟨w4.heap.size, 0, none⟩)] 53)).drew ∧ Value.pointer (some ⟨w5.heap.size, 0, none⟩) = .pointer (some ⟨gr, 0, none⟩) ∧ Hid (Rz w6 w4.heap.size gr w4.heap.size gb (.slice a T.length c) (.slice aL P.length cL) (zC T X 0) (zE T X 0)) ∧ Hid (Below w5.heap.size w5 w6)) := hide_ (by
      obtain ⟨k1, k2⟩ := blk2 w5 #[.slice a T.length c, .slice aL P.length cL, fnL (w5.heap.size + 1)] #[.pointer (some ⟨w4.heap.size, 0, none⟩)] 55 53
      exact ⟨_, w5.heap.size + 1, _, rfl, rfl, hide_ (hmk _ _ _ (Below.drew (below2 w5 _ _)) k1.drew k2.drew), hide_ (Below.drew (below2 w5 _ _))⟩)
    clear s0 s1 hPm hPo hB4 hB5 kb5 hPl hsz KP3 KS3 hmk ks4
    go_upto_region 10 with fail
    rw [← hw5]
    clear hw5 s0'
    go_cut [8] from 31 to 36 (fun x8 wc => ∃ gr gb w6, w6 = wc ∧ x8 = .pointer (some ⟨gr, 0, none⟩) ∧ Hid (Rz w6 w4.heap.size gr w4.heap.size gb (.slice a T.length c) (.slice aL P.length cL) (zC T X 0) (zE T X 0)) ∧ Hid (Below w5.heap.size w5 w6))
    case first =>
      refine wp_region_last 6 (fun w' => w'.cell? ⟨w.heap.size, 0, none⟩ = some (.slice a T.length c)) (by kernel_rfl) (HSS.out _ ((Below.refl w5.heap.size w5).drew)) (fun hHeld => ?_)
      refine wpAnyF_take [6] (by kernel_rfl) (i := 0) (v := ?vn1) rfl (by kernel_rfl) (by kernel_rfl) (by kernel_rfl) (fun _ _ _ h => h) (Or.inl ⟨by kernel_rfl, ?hyn1⟩) hHeld ?restn1
      case hyn1 => intro w' hSw; (try dsimp only at hSw); go_simp; try with_reducible rfl
      simp only [Act.put]
      refine wpAnyF_take [6] (by kernel_rfl) (i := 1) (v := ?vn2) rfl (by kernel_rfl) (by kernel_rfl) (by kernel_rfl) (fun _ _ _ h => h) (Or.inl ⟨by kernel_rfl, ?hyn2⟩) hHeld ?restn2
      case hyn2 => intro w' hSw; (try dsimp only at hSw); go_simp; try with_reducible rfl
      simp only [Act.put]
      refine wpAnyF_take [6] (by kernel_rfl) (i := 2) (v := ?vn3) rfl (by kernel_rfl) (by kernel_rfl) (by kernel_rfl) (fun _ _ _ h => h) (Or.inl ⟨by kernel_rfl, ?hyn3⟩) hHeld ?restn3
      case hyn3 => intro w' hSw; (try dsimp only at hSw); go_simp; try with_reducible rfl
      simp only [Act.put]
      refine wpAnyF_ready (rs := [3, 5]) (by kernel_rfl) (by simp) ?_
      refine AllReadyF.cons rfl (fun K hK => ?_) ?_
      · go_simp
        refine (HLb.out _).mono ?_
        rintro e w' ⟨rfl, rfl⟩
        simp only [fnL]
        try dsimp only
        refine hK.out _ _ (HSS.out _ (below_to ((Below.refl w5.heap.size w5).drew) (below1 _ _))) (fun hHeld => ?_)
        clear hK K
        refine wpAnyF_take [6] (by kernel_rfl) (i := 4) (v := ?vn4) rfl (by kernel_rfl) (by kernel_rfl) (by kernel_rfl) (fun _ _ _ h => h) (Or.inl ⟨by kernel_rfl, ?hyn4⟩) hHeld ?restn4
        case hyn4 => intro w' hSw; (try dsimp only at hSw); go_simp; try with_reducible rfl
        simp only [Act.put]
        refine wpAnyF_ready (rs := [5]) (by kernel_rfl) (by simp) ?_
        refine AllReadyF.cons rfl (fun K hK => ?_) AllReadyF.nil
        go_simp
        refine hK.out _ _ (HSS.out _ (below_to (below_to ((Below.refl w5.heap.size w5).drew) (below1 _ _)) (below1 _ _))) (fun hHeld => ?_)
        clear hK K
        refine wpAnyF_ready (rs := [6]) (by kernel_rfl) (by simp) ?_
        refine AllReadyF.last rfl (fun K hK => ?_)
        go_simp
        refine hK.out _ _ ?_
        clear hK K
        refine wpAnyF_done (by kernel_rfl) ?_ _
        go_wp2_with fail
        go_meet
        case rel => first | exact HA.out | exact HB.out
      refine AllReadyF.cons rfl (fun K hK => ?_) AllReadyF.nil
      go_simp
      refine hK.out _ _ (HSS.out _ (below_to ((Below.refl w5.heap.size w5).drew) (below1 _ _))) (fun hHeld => ?_)
      clear hK K
      refine wpAnyF_ready (rs := [3]) (by kernel_rfl) (by simp) ?_
      refine AllReadyF.cons rfl (fun K hK => ?_) AllReadyF.nil
      go_simp
      refine (HLb.out _).mono ?_
      rintro e w' ⟨rfl, rfl⟩
      simp only [fnL]
      try dsimp only
      refine hK.out _ _ (HSS.out _ (below_to (below_to ((Below.refl w5.heap.size w5).drew) (below1 _ _)) (below1 _ _))) (fun hHeld => ?_)
      clear hK K
      refine wpAnyF_take [6] (by kernel_rfl) (i := 4) (v := ?vn5) rfl (by kernel_rfl) (by kernel_rfl) (by kernel_rfl) (fun _ _ _ h => h) (Or.inl ⟨by kernel_rfl, ?hyn5⟩) hHeld ?restn5
      case hyn5 => intro w' hSw; (try dsimp only at hSw); go_simp; try with_reducible rfl
      simp only [Act.put]
      refine wpAnyF_ready (rs := [6]) (by kernel_rfl) (by simp) ?_
      refine AllReadyF.last rfl (fun K hK => ?_)
      go_simp
      refine hK.out _ _ ?_
      clear hK K
      refine wpAnyF_done (by kernel_rfl) ?_ _
      go_wp2_with fail
      go_meet
      case rel => first | exact HA.out | exact HB.out
    case rest =>
    clear HLb HSS HA HB
    obtain ⟨gr, gb, w6, hw6, rfl, HM6, HB6⟩ := hcut
    subst hw6
    have HC6 := hide_ (HC5.out.kp hz5 (Kp.later HB6.out))
    have HL6 := hide_ (HL5.out.kp hz5 (Kp.later HB6.out))
    have KS6 := hide_ (KS5.out.later HB6.out)
    have KP6 := hide_ (KP5.out.later HB6.out)
    have hz6 : w4.heap.size ≤ w6.heap.size := Nat.le_trans hz5 HB6.out.size
    have HBw6 := hide_ (below_to HB5.out HB6.out)
    have q0 := KS6.out.cell 0
    simp at q0
    clear HC5 HL5 KS5 KP5 HB6 HB5 hz5
    have hwb := hz4
    generalize hgb : w4.heap.size = gp at *
    go_wp2_with fail
    go_loopw [39] (fun x39 wr => ∃ (i : Nat), i ≤ T.length ∧ x39 = .int .i64 (i : Int) ∧ Hid (Rz wr gp gr gp gb (.slice a T.length c) (.slice aL P.length cL) (zC T X i) (zE T X i)) ∧ Hid (Kp gp w6 wr) ∧ Hid ((zC T X i).length ≤ 1048576)) (fun x39 _ => T.length - (intOf x39).toNat)
    case atStart => exact ⟨0, Nat.zero_le _, rfl, HM6, hide_ (Kp.refl _ _), hide_ (by simp [zC])⟩
    case round =>
      obtain ⟨i, hi, rfl, HMq, HKq, HLq⟩ := hrel
      generalize wr = wq at *
      clear HM6 q0
      by_cases hlt : i < T.length
      · have hlt' : (i : Int) < T.length := by omega
        have hx : T[i]? = some (T[i]'hlt) := List.getElem?_eq_getElem hlt
        have hok1 := HOK.out.ty i hlt
        rw [show T.getD i ty0 = T[i]'hlt by simp [List.getD, hlt]] at hok1
        have hil : i ≤ 1048576 := Nat.le_trans (zC_len2 T X i) HLq.out
        obtain ⟨ae, ce, vC, g, cap, w7, k1, ⟨ac, cc, hvc⟩, r1, k2, hM7, hK7⟩ := HMq.out.entry ((zC T X i).length : Int) (by rw [zE_len]; omega)
        subst hvc
        rw [zE_len] at k1 r1 k2 hM7 hK7
        obtain ⟨lc, hlc⟩ : ∃ l, (zC T X i).length = l := ⟨_, rfl⟩
        have HCs : Hid (zC T X i ++ zrP T X (T[i]'hlt) ((zC T X i).length : Int) = zC T X (i + 1)) := hide_ (by show _ = zC T X i ++ _; rw [tyA_at hx])
        have HEs : Hid (zE T X i ++ [((zC T X i).length : Int)] = zE T X (i + 1)) := hide_ (zE_succ T X i).symm
        rw [HEs.out] at hM7
        obtain ⟨w8, hw8⟩ : ∃ wx, wx = w7.setCell ⟨gp, 2, none⟩ (.slice (some ⟨g, 0, none⟩) (i + 1) cap) := ⟨_, rfl⟩
        rw [← hw8] at hM7 hK7
        have HK8 := hide_ (HKq.out.trans hK7)
        have hRt := fun k nn el ps (e : T[i]'hlt = ⟨k, nn, el, ps⟩) => routine_any gp gr gp gb a aL c P.length cL T X (zC T X i) (zE T X (i + 1)) i k nn el ps w8 (by have := HLq.out; omega) HPl.out.symm (by rw [← e]; exact hx) (hide_ (by rw [← e]; exact hok1)) (hide_ (HC6.out.kp hz6 HK8.out)) (hide_ (HL6.out.kp hz6 HK8.out)) (hide_ hM7)
        have hRt2 := hRt (T[i]'hlt).k (T[i]'hlt).n (T[i]'hlt).e (T[i]'hlt).ps rfl
        have e9 : (⟨(T[i]'hlt).k, (T[i]'hlt).n, (T[i]'hlt).e, (T[i]'hlt).ps⟩ : Ty) = T[i]'hlt := rfl
        rw [e9, HCs.out] at hRt2
        have HRt := hide_ hRt2
        have HMn := hide_ (zC_mono T X (i + 1) (T.length - (i + 1)))
        rw [show i + 1 + (T.length - (i + 1)) = T.length by omega] at HMn
        have p1 := k1.cell 1; have p2 := k1.cell 2
        have r2 := k2.cell 2; have rz := k2.frozen 2
        simp at p1 p2 r2
        rw [hlc] at p1 r1
        have HR := hide_ r1
        have HLc := hide_ hlc
        clear hx hok1 HCs hRt hRt2 e9 k1 k2 r1 hM7 hK7 hlc HEs
        go_upto_region 15 with (at_builtin; refine wpList_append_run rfl (.tmp 43) (.tmp 47) 28 28 rfl rfl rfl HR.out ?_)
        rw [← hw8]
        clear hw8 HR p1 p2 r2 rz
        go_upto_region 16 with (go_at_call 15; refine HRt.out.mono ?_; rintro e w9 ⟨rfl, HM9, HK9⟩)
        clear HRt HMq
        obtain ⟨vC9, vE9, kb9, hc9, -⟩ := HM9.out.bp
        obtain ⟨ac9, cc9, rfl, -⟩ := hc9.row
        have c1 := kb9.cell 1
        simp at c1
        have HK10 := hide_ (HK8.out.trans HK9.out)
        clear kb9 hc9 HK9 HKq HK8
        by_cases hbig : 1048576 < (zC T X (i + 1)).length
        · have hbig' : (1048576 : Int) < ((zC T X (i + 1)).length : Int) := by omega
          have HA : Hid (zA T R = 4) := hide_ (by rw [HAd.out, if_pos (by have := HMn.out; omega)])
          have hBf := HBw6.out.trans ((below_le (HK10.out.below hz6) (by omega)) : Below w.heap.size w6 w9)
          have HBf := hide_ hBf
          have kp2 := KP6.out.below (HK10.out.below hz6) hwb
          have p0 := kp2.cell 0; have p1 := kp2.cell 1; have p2 := kp2.cell 2
          have pz := fun i => kp2.frozen i
          simp at p0 p1 p2
          have HK2 := hide_ (setP kp2 (.bool false) (.slice none 0 0) (.slice none 0 0))
          clear hBf kp2 hbig
          go_wp2_with fail
          refine retPe rfl rfl rfl HK2.out ?_
          exact ⟨_, _, by rw [HA.out]; rfl, hide_ (by unfold zX; rw [HA.out, if_neg (by decide)]; exact COwn.nil _ _), hide_ (by unfold zY; rw [HA.out, if_neg (by decide)]; exact IOwn.nil _ _), HBf.out.trans ((upd3 _ _ _ _ _).below _ HBf.out.size (fun k hk => by omega))⟩
        · have hbig' : ¬ (1048576 : Int) < ((zC T X (i + 1)).length : Int) := by omega
          have HLn : Hid ((zC T X (i + 1)).length ≤ 1048576) := hide_ (by omega)
          clear hbig
          go_wp2_with fail
          go_roundw
          case rel => exact ⟨i + 1, by omega, by go_num, HM9, HK10, HLn⟩
          case measure => simp [intOf]; omega
      · obtain rfl : i = T.length := by omega
        have HA : Hid (zA T R = 0) := hide_ (by rw [HAd.out, if_neg (by have := HLq.out; omega)])
        obtain ⟨vC, vE, kb7, hc7, he7⟩ := HMq.out.bp
        obtain ⟨ac, cc, hvc, -⟩ := hc7.row
        obtain ⟨ae, ce, hve⟩ := he7.slice
        subst hvc hve
        have c0 := kb7.cell 0; have c1 := kb7.cell 1; have c2 := kb7.cell 2
        simp at c0 c1 c2
        have hBf : Below w.heap.size w wq := HBw6.out.trans (below_le (HKq.out.below hz6) (by omega))
        have HBf := hide_ hBf
        have kp2 := KP6.out.below (HKq.out.below hz6) hwb
        have p0 := kp2.cell 0; have p1 := kp2.cell 1; have p2 := kp2.cell 2
        have pz := fun i => kp2.frozen i
        simp at p0 p1 p2
        have HK2 := hide_ (setP kp2 (.bool true) (.slice ac (zC T X T.length).length cc) (.slice ae (zE T X T.length).length ce))
        have HCf : Hid (COwn (((wq.setCell ⟨w.heap.size + 1, 0, none⟩ (.bool true)).setCell ⟨w.heap.size + 1, 1, none⟩ (.slice ac (zC T X T.length).length cc)).setCell ⟨w.heap.size + 1, 2, none⟩ (.slice ae (zE T X T.length).length ce)) w.heap.size (.slice ac (zC T X T.length).length cc) (zX T R)) := hide_ (by
          unfold zX
          rw [HA.out, if_pos rfl, HXe.out]
          exact own_base (ownS_upd hc7 (upd3 _ _ _ _ _) (fun k e hk => by subst hk; exact notC hc7 kp2 (by decide) e)) (by omega))
        have HEf : Hid (IOwn (((wq.setCell ⟨w.heap.size + 1, 0, none⟩ (.bool true)).setCell ⟨w.heap.size + 1, 1, none⟩ (.slice ac (zC T X T.length).length cc)).setCell ⟨w.heap.size + 1, 2, none⟩ (.slice ae (zE T X T.length).length ce)) w.heap.size (.slice ae (zE T X T.length).length ce) (zY T R)) := hide_ (by
          unfold zY
          rw [HA.out, if_pos rfl, HXe.out]
          exact own_base (he7.upd (upd3 _ _ _ _ _) (fun k e hk => by subst hk; exact notI he7 kp2 (by decide) e)) (by omega))
        clear hBf kp2 kb7 hc7 he7
        go_wp2_with fail
        refine retPe rfl rfl rfl HK2.out ?_
        exact ⟨_, _, by rw [HA.out]; rfl, HCf, HEf, HBf.out.trans ((upd3 _ _ _ _ _).below _ HBf.out.size (fun k hk => by omega))⟩
end Go.Proofs.Ytncndgfaalojpaa
/- mortiselaw17: awake. -/
namespace Go.Proofs.Ytncndgfaalojpaa
open Go.RowKit
set_option linter.unusedVariables false

theorem aw_a : zA [⟨1, 2, 0, []⟩] [] = 0 := by decide +kernel
theorem aw_x : zX [⟨1, 2, 0, []⟩] [] = [⟨33, 0, 2, 0⟩, ⟨20, 0, 0, 0⟩] := by
  unfold zX
  rw [if_pos aw_a]
  rfl
theorem aw_y : zY [⟨1, 2, 0, []⟩] [] = [0] := by
  unfold zY
  rw [if_pos aw_a]
  rfl
theorem aw_b : zA [⟨0, 0, 0, []⟩] [] = 92 := by decide +kernel
theorem one_lens (k n e : Int) : LensT [⟨k, n, e, []⟩] := ⟨by simp, fun t ht => by
  simp only [List.mem_cons, List.not_mem_nil, or_false] at ht
  subst ht
  simp⟩
theorem one_row {w : World} {g : Nat} {k n e : Int} (h : Blk w g 43 [.int .i64 k, .int .i64 n, .int .i64 e, .slice none 0 0]) : TRow w (some ⟨g, 0, none⟩) [⟨k, n, e, []⟩] := by
  refine .inr ⟨_, 0, rfl, h.lt, fun i t ht => ?_⟩
  have hi := (List.getElem?_eq_some_iff.1 ht).1
  obtain rfl : i = 0 := by simp at hi; omega
  simp at ht
  subst ht
  refine ⟨none, 0, fun j hj => ?_, Nat.le_refl _, fun _ => rfl, .inl rfl⟩
  rw [h.cell, Nat.zero_add]
  simp [tyc]
set_option maxRecDepth 100000 in
set_option maxHeartbeats 4000000 in
theorem awake_any (w : World) : Calls Try.prog 5 #[] w fun e w' => e = .returned (.bool true) ∧ Below w.heap.size w w' := by
  obtain ⟨w1, hw1⟩ : ∃ wx, wx = w.alloc (.cells #[.int .i64 1, .int .i64 2, .int .i64 0, .slice none 0 0] 43) := ⟨_, rfl⟩
  have hB1 : Below w.heap.size w w1 := by rw [hw1]; exact below1 _ _
  have k1 : Blk w1 w.heap.size 43 [.int .i64 1, .int .i64 2, .int .i64 0, .slice none 0 0] := by rw [hw1]; exact Blk.newA w _ _
  have hd := encoder_any (some ⟨w.heap.size, 0, none⟩) 1 [⟨1, 2, 0, []⟩] none 0 [] w1 (by decide) (by decide) (hide_ (one_lens _ _ _)) (hide_ (one_row k1)) (hide_ (.inl rfl))
  unfold EnTo at hd
  rw [aw_a, aw_x, aw_y] at hd
  simp only [List.length_cons, List.length_nil, Nat.zero_add] at hd
  have HD := hide_ hd
  have HB1 := hide_ hB1
  clear hd k1 hB1
  go_enter Try.func5, Try.ntmps5
  go_wp2_with fail
  rw [← hw1]
  refine HD.out.mono ?_
  rintro e w2 ⟨vC, vE, rfl, HC2, HE2, hB2⟩
  clear HD hw1
  obtain ⟨ac, cc, rfl, -, -, -⟩ := HC2.out.row
  obtain ⟨ae, ce, rfl, -, -, -⟩ := HE2.out.row
  simp only [List.length_cons, List.length_nil, Nat.zero_add] at HC2 HE2 ⊢
  obtain ⟨w3, hw3⟩ : ∃ wx, wx = w2.alloc (.cells #[.bool true, .slice ac 2 cc, .slice ae 1 ce] 30) := ⟨_, rfl⟩
  have hB3 : Below w2.heap.size w2 w3 := by rw [hw3]; exact below1 _ _
  have KP : Hid (Blk w3 w2.heap.size 30 [.bool true, .slice ac 2 cc, .slice ae 1 ce]) := hide_ (by rw [hw3]; exact Blk.newA w2 _ _)
  have HC3 := hide_ (HC2.out.later hB3)
  have HE3 := hide_ (HE2.out.later hB3)
  have HB3 := hide_ (below_to HB1.out (below_to hB2 hB3))
  clear hB2 hB3 HC2 HE2 HB1
  go_upto_region 2 with fail
  rw [← hw3]
  clear hw3
  obtain ⟨w4, hw4⟩ : ∃ wx, wx = w3.alloc (.cells #[.int .i64 0, .int .i64 0, .int .i64 0, .slice none 0 0] 43) := ⟨_, rfl⟩
  have hB4 : Below w3.heap.size w3 w4 := by rw [hw4]; exact below1 _ _
  have k4 : Blk w4 w3.heap.size 43 [.int .i64 0, .int .i64 0, .int .i64 0, .slice none 0 0] := by rw [hw4]; exact Blk.newA w3 _ _
  have hd := encoder_any (some ⟨w3.heap.size, 0, none⟩) 1 [⟨0, 0, 0, []⟩] none 0 [] w4 (by decide) (by decide) (hide_ (one_lens _ _ _)) (hide_ (one_row k4)) (hide_ (.inl rfl))
  unfold EnTo at hd
  rw [aw_b] at hd
  simp only [List.length_cons, List.length_nil, Nat.zero_add] at hd
  have HD := hide_ hd
  have HB4 := hide_ hB4
  clear hd k4 hB4
  go_wp2_with fail
  rw [← hw4]
  refine HD.out.mono ?_
  rintro e w5 ⟨vC5, vE5, rfl, HC5, HE5, hB5⟩
  obtain ⟨ac5, cc5, rfl, -, -, -⟩ := HC5.out.row
  obtain ⟨ae5, ce5, rfl, -, -, -⟩ := HE5.out.row
  have HB5 := hide_ (below_to HB4.out hB5)
  clear hw4 HD HB4 hB5 HC5 HE5
  generalize (zX [⟨0, 0, 0, []⟩] []).length = l5 at *
  generalize (zY [⟨0, 0, 0, []⟩] []).length = m5 at *
  generalize decide ((92 : Int) = 0) = d5 at *
  obtain ⟨w6, hw6⟩ : ∃ wx, wx = w5.alloc (.cells #[.bool d5, .slice ac5 l5 cc5, .slice ae5 m5 ce5] 30) := ⟨_, rfl⟩
  have hB6 := below_to HB5.out (show Below w5.heap.size w5 w6 by rw [hw6]; exact below1 _ _)
  have kp := KP.out.later hB6
  have q0 := kp.cell 0; have q1 := kp.cell 1; have q2 := kp.cell 2
  simp at q0 q1 q2
  obtain ⟨b1, o1, rfl, -, h1⟩ := (HC3.out.later hB6).rowS.open (by simp)
  obtain ⟨b2, o2, rfl, -, h2⟩ := (HE3.out.later hB6).rowS.open (by simp)
  have a0 := h1 0 _ rfl 0 (by decide); have a1 := h1 0 _ rfl 1 (by decide); have a2 := h1 0 _ rfl 2 (by decide); have a3 := h1 0 _ rfl 3 (by decide)
  have b0 := h1 1 _ rfl 0 (by decide); have b1' := h1 1 _ rfl 1 (by decide); have b2' := h1 1 _ rfl 2 (by decide); have b3 := h1 1 _ rfl 3 (by decide)
  have e0 := h2 0 (by simp)
  simp [inc] at a0 a1 a2 a3 b0 b1' b2' b3 e0
  have HBf := hide_ (below_to HB3.out hB6)
  clear HB5 hB6 kp h1 h2 HC3 HE3 KP HB3
  go_upto_region 3 with fail
  rw [← hw6]
  clear hw6
  go_wp2_with fail
  go_ret
  exact ⟨rfl, HBf.out⟩
end Go.Proofs.Ytncndgfaalojpaa
/- The document's Encoder. -/
namespace Go.Proofs.Ytncndgfaalojpaa
open Go.RowKit
set_option linter.unusedVariables false

theorem offX_f (x : Ex) : (offX x).f = x.f := by unfold offX; split <;> rfl
theorem rowX_f (l : List Ex) : (rowX l).1 = l.all (·.f) := by
  refine snoc_ind (P := fun l => (rowX l).1 = l.all (·.f)) rfl (fun l x ih => ?_) l
  have e : rowX (l ++ [x]) = ((rowX l).1 && (offX x).f, plus2 (rowX l).2.1 (offX x).l, plus2 (rowX l).2.2 (offX x).m) := by simp [rowX]
  rw [e, List.all_append]
  simp only [ih, offX_f]
  simp
theorem zfV_row (X : List Ex) (ps : List Pt) : zfV (rowP X ps).sl = ps.any (fun p => !(exAt X p.ty).f) := by
  refine snoc_ind (P := fun ps => zfV (rowP X ps).sl = ps.any (fun p => !(exAt X p.ty).f)) rfl (fun l x ih => ?_) ps
  rw [rowP_snoc, List.any_append, ← ih]
  unfold zfV addF
  simp only [List.any_append, List.any_cons, List.any_nil, Bool.or_false]
  congr 1
  unfold slotP
  cases (exAt X x.ty).f <;> rfl
/-- A struct is fixed just if no slot of it is variable. -/
theorem ext_v {T : List Ty} {n : Nat} {t : Ty} (hn : T[n]? = some t) (h8 : t.k = 8) (hok : tyOk t (n : Int) = true) : (exAt (extL T) (n : Int)).f = !zfV (layP (extL T) t).sl := by
  have hnT := (List.getElem?_eq_some_iff.1 hn).1
  have hl : layP (extL T) t = rowP (extL T) t.ps := by unfold layP; rw [if_pos h8]
  rw [exAt_ext hn, hl, zfV_row]
  have e1 : (ext1 (extL (T.take n)) t).f = (rowX (kidL (extL (T.take n)) t.k t.e t.ps)).1 := by
    unfold ext1
    rw [if_neg (by omega), if_neg (by omega), if_neg (by omega), if_neg (by omega), if_neg (by omega), if_neg (by omega), if_neg (by omega)]
  have e2 : kidL (extL (T.take n)) t.k t.e t.ps = t.ps.map (fun p => exAt (extL T) p.ty) := by
    unfold kidL
    rw [h8, show hasE 8 = false from rfl]
    simp only [Bool.false_eq_true, if_false, List.nil_append]
    refine List.map_congr_left (fun p hp => ?_)
    obtain ⟨j, hj, rfl⟩ := List.getElem_of_mem hp
    obtain ⟨h0, h1⟩ := tyOk_part hok (List.getElem?_eq_getElem hj)
    exact exAt_take (by omega) h0 h1
  rw [e1, rowX_f, e2, List.all_map]
  rw [List.not_any_eq_all_not]
  congr 1
  funext p
  simp
theorem zrP_len {T : List Ty} {X : List Ex} {t : Ty} {n : Nat} (b : Int) (h : tyOk t (n : Int) = true) : (zrP T X t b).length ≤ 300 := by
  have h1 := h
  unfold tyOk at h1
  simp only [Bool.and_eq_true] at h1
  have h2 := of_decide_eq_true h1.1.1
  obtain ⟨k, nn, el, ps⟩ := t
  simp only at h2 h1
  unfold zrP
  rw [List.length_append, List.length_singleton]
  have hk : k = 1 ∨ k = 2 ∨ k = 3 ∨ k = 4 ∨ k = 5 ∨ k = 6 ∨ k = 7 ∨ k = 8 := by omega
  rcases hk with rfl | rfl | rfl | rfl | rfl | rfl | rfl | rfl
  · simp [zbP]
  · simp [zbP]
  · simp [zbP]
  · simp [zbP, zrI]; split <;> simp [zrF, zrV]
  · simp [zbP, zrI]; split <;> simp [zrF, zrV]
  · simp [zbP]
  · obtain ⟨p0, p1⟩ := parts_n h (.inl rfl)
    simp [zbP, zaP, zaH_len, zaB_len]
    omega
  · obtain ⟨p0, p1⟩ := parts_n h (.inr rfl)
    have := (zfB_len T ps (layP X ⟨8, nn, el, ps⟩).sl ps.length).2
    simp [zbP, zfP]
    split <;> simp <;> omega
theorem zC_le {T : List Ty} {R : List Rt} (hS : OkS T R) (X : List Ex) : ∀ i, i ≤ T.length → (zC T X i).length ≤ 300 * i
  | 0, _ => Nat.le_refl _
  | i + 1, hi => by
    have ih := zC_le hS X i (by omega)
    have hok := hS.ty i (by omega)
    have e : tyA T (i : Int) = T.getD i ty0 := by unfold tyA; rw [Int.toNat_natCast]
    show (zC T X i ++ _).length ≤ _
    rw [List.length_append, e]
    have := zrP_len (T := T) (X := X) ((zC T X i).length : Int) hok
    omega
theorem Xc.of {w0 w : World} {B B0 c : Nat} {aX : Option Addr} {X : List Ex} (h : XOwn w0 B0 (.slice aX X.length c) X) (hB : w0.heap.size ≤ B) (hb : Below w0.heap.size w0 w) : Xc B w aX X := fun n x hx => by
  obtain ⟨a, c', e, -, -, hr⟩ := h.row
  injection e with e _ _
  subst e
  obtain ⟨b, o, rfl, hbl, hc⟩ := hr.open (by have := (List.getElem?_eq_some_iff.1 hx).1; omega)
  refine ⟨b, o, rfl, fun w' hw j hj => ?_⟩
  have hb' : Below w0.heap.size w0 w' := hb.trans (below_le hw hB)
  exact (hb'.cell (p := ⟨b, o + n * 4 + j, none⟩) hbl).trans (hc n x hx j hj)
set_option maxRecDepth 100000 in
set_option maxHeartbeats 8000000 in
theorem rencoder_any (a : Option Addr) (c : Nat) (T : List Ty) (ar : Option Addr) (cr : Nat) (R : List Rt) (w : World) (hn : T.length ≤ 2000000) (hm : R.length ≤ 10000000000000) (hL : Hid (LensT T)) (hT : Hid (TRow w a T)) (hR : Hid (RRow w ar R)) :
    Calls Try.prog 8 #[.agg #[.slice a T.length c, .slice ar R.length cr]] w fun e w' => EnTo T R w e w' := by
  obtain ⟨w1, hw1⟩ : ∃ wx, wx = (w.alloc (.cells #[.slice a T.length c, .slice ar R.length cr] 25)).alloc (.cells #[.bool false, .slice none 0 0, .slice none 0 0] 30) := ⟨_, rfl⟩
  have hB1 : Below w.heap.size w w1 := by rw [hw1]; exact below2 _ _ _
  obtain ⟨ks, kp⟩ := blk2 w #[.slice a T.length c, .slice ar R.length cr] #[.bool false, .slice none 0 0, .slice none 0 0] 25 30
  rw [← hw1] at ks kp
  have KS := hide_ ks
  have KP := hide_ kp
  have HB1 := hide_ hB1
  have s0 := ks.cell 0; have s1 := ks.cell 1
  simp at s0 s1
  have HCk := hide_ (checkR_any a c T ar cr R w1 (by omega) hm hL (hide_ (hT.out.later hB1)) (hide_ (hR.out.later hB1)))
  clear hB1 ks kp
  go_enter Try.func8, Try.ntmps8
  go_upto_region 1 with fail
  rw [← hw1]
  clear hw1
  go_wp2_with fail
  refine HCk.out.mono ?_; rintro e w2 ⟨rfl, hB2⟩
  clear HCk s0 s1
  obtain ⟨ck, hck⟩ : ∃ k, (chk T R).1 = k := ⟨_, rfl⟩
  have HCk := hide_ hck
  rw [hck]
  clear hck
  generalize (chk T R).2 = ck2 at *
  obtain ⟨w3, hw3⟩ : ∃ wx, wx = w2.alloc (.cells #[.int .i64 ck, .int .i64 ck2] 60) := ⟨_, rfl⟩
  have hB3 : Below w2.heap.size w2 w3 := by rw [hw3]; exact below1 _ _
  have k3 : Blk w3 w2.heap.size 60 [.int .i64 ck, .int .i64 ck2] := by rw [hw3]; exact Blk.newA w2 _ _
  have f0 := k3.cell 0
  simp at f0
  have HB13 := hide_ (below_to hB2 hB3)
  have HB3 := hide_ (below_to HB1.out HB13.out)
  have KS3 := hide_ (KS.out.later HB13.out)
  have KP3 := hide_ (KP.out.later HB13.out)
  clear hB2 hB3 k3 KS KP HB1 HB13
  go_upto_region 2 with fail
  rw [← hw3]
  clear hw3
  by_cases hne : ck ≠ 0
  · have HA : Hid (zA T R = 92) := hide_ (by unfold zA; rw [if_pos (by rw [HCk.out]; exact hne)])
    have hE1 : (ck != 0) = true := by simpa using hne
    have kp2 := KP3.out
    have p0 := kp2.cell 0; have p1 := kp2.cell 1; have p2 := kp2.cell 2
    have pz := fun i => kp2.frozen i
    simp at p0 p1 p2
    have HK2 := hide_ (setP kp2 (.bool false) (.slice none 0 0) (.slice none 0 0))
    clear hne kp2
    go_wp2_with fail
    refine retPe rfl rfl rfl HK2.out ?_
    exact ⟨_, _, by rw [HA.out]; rfl, hide_ (by unfold zX; rw [HA.out, if_neg (by decide)]; exact COwn.nil _ _), hide_ (by unfold zY; rw [HA.out, if_neg (by decide)]; exact IOwn.nil _ _), HB3.out.trans ((upd3 _ _ _ _ _).below _ HB3.out.size (fun k hk => by omega))⟩
  · obtain rfl : ck = 0 := by omega
    clear hne
    have HOf := hide_ (ofR_any a c T ar cr R w3 (by omega) hm hL (hide_ (hT.out.later HB3.out)) (hide_ (hR.out.later HB3.out)))
    have s0 := KS3.out.cell 0; have s1 := KS3.out.cell 1
    simp at s0 s1
    go_wp2_with fail
    refine HOf.out.mono ?_; rintro e w4 hOf
    clear HOf f0
    rcases hOf with ⟨hne, -, -⟩ | ⟨hok, vx, rfl, hXo, hB4⟩
    · exact absurd HCk.out hne
    obtain ⟨ax, cx, hvx, -, -, -⟩ := hXo.row
    subst hvx
    have HXo := hide_ hXo
    have HOK := hide_ hok
    have HXl := hide_ (extL_len T)
    have HV := hide_ (fun n t (h1 : T[n]? = some t) (h2 : t.k = 8) => ext_v (T := T) h1 h2 (by
      have := hok.ty n (List.getElem?_eq_some_iff.1 h1).1
      rwa [show T.getD n ty0 = t by simp [List.getD, h1]] at this))
    have HCl := hide_ (fun i hi => zC_le hok (extL T) i hi)
    have HAd : Hid (zA T R = if bigX (extL T) then 91 else if 1048576 < (zC T (extL T) T.length).length then 4 else 0) := hide_ (by unfold zA; rw [if_neg (by rw [HCk.out]; decide)])
    obtain ⟨X, hX⟩ : ∃ X, extL T = X := ⟨_, rfl⟩
    have HXe := hide_ hX
    rw [hX] at HXl HAd HXo HV HCl ⊢
    have HB4 := hide_ (below_to HB3.out hB4)
    have KS4 := hide_ (KS3.out.later hB4)
    have KP4 := hide_ (KP3.out.later hB4)
    clear hX hok hXo s0 s1 hB4 HB3 KS3 KP3 HCk
    go_upto_region 6 with fail
    go_loopw [7] (fun x7 wr => ∃ (i : Nat), i ≤ X.length ∧ x7 = .int .i64 (i : Int) ∧ w4 = wr ∧ Hid (bigX (X.take i) = false)) (fun x7 _ => X.length - (intOf x7).toNat)
    case atStart => exact ⟨0, Nat.zero_le _, rfl, rfl, hide_ rfl⟩
    case round =>
      obtain ⟨i, hi, rfl, rfl, HF⟩ := hrel
      by_cases hlt : i < X.length
      · have hlt' : (i : Int) < X.length := by omega
        have hXl : X.length ≤ 2000000 := by rw [HXl.out]; exact hn
        have hx : X[i]? = some (X[i]'hlt) := List.getElem?_eq_getElem hlt
        obtain ⟨a', c', e', -, -, hr⟩ := HXo.out.row
        injection e' with e' _ _
        subst e'
        obtain ⟨b, o, rfl, -, hc⟩ := hr.open (by omega)
        have i2 := hc i _ hx 2 (by decide)
        have HS : Hid (bigX (X.take (i + 1)) = (bigX (X.take i) || decide (16777216 < (X[i]'hlt).m))) := hide_ (by unfold bigX; rw [List.take_succ_eq_append_getElem hlt, List.any_append]; simp only [List.any_cons, List.any_nil, Bool.or_false])
        have HA : Hid (decide (16777216 < (X[i]'hlt).m) = true → bigX X = true) := hide_ (fun h => by
          unfold bigX
          rw [List.any_eq_true]
          exact ⟨_, List.getElem_mem hlt, h⟩)
        generalize X[i]'hlt = x at *
        obtain ⟨xf, xl, xm, xd⟩ := x
        simp [exc] at i2
        simp only at HS HA
        clear hc hx hr
        by_cases hm2 : 16777216 < xm
        · have HA2 : Hid (zA T R = 91) := hide_ (by rw [HAd.out, if_pos (HA.out (decide_eq_true hm2))])
          have kp2 := KP4.out
          have p0 := kp2.cell 0; have p1 := kp2.cell 1; have p2 := kp2.cell 2
          have pz := fun i => kp2.frozen i
          simp at p0 p1 p2
          have HK2 := hide_ (setP kp2 (.bool false) (.slice none 0 0) (.slice none 0 0))
          clear kp2
          go_wp2_with fail
          refine retPe rfl rfl rfl HK2.out ?_
          exact ⟨_, _, by rw [HA2.out]; rfl, hide_ (by unfold zX; rw [HA2.out, if_neg (by decide)]; exact COwn.nil _ _), hide_ (by unfold zY; rw [HA2.out, if_neg (by decide)]; exact IOwn.nil _ _), HB4.out.trans ((upd3 _ _ _ _ _).below _ HB4.out.size (fun k hk => by omega))⟩
        · have HF2 : Hid (bigX (X.take (i + 1)) = false) := hide_ (by rw [HS.out, HF.out, decide_eq_false hm2]; rfl)
          go_wp2_with fail
          go_roundw
          case rel => exact ⟨i + 1, by omega, by go_num, (by trivial), HF2⟩
          case measure => simp [intOf]; omega
      · obtain rfl : i = X.length := by omega
        have hF := HF.out
        rw [List.take_length] at hF
        rw [hF] at HAd
        simp only [if_neg Bool.false_ne_true] at HAd
        have hlt' : ¬ ((X.length : Int)) < (X.length : Int) := by omega
        clear hF HF hlt hi
        have HLo := hide_ (ofD_any a c T ar cr R w4 (by omega) hm hL (hide_ (hT.out.later HB4.out)) (hide_ (hR.out.later HB4.out)))
        have s0 := KS4.out.cell 0; have s1 := KS4.out.cell 1
        simp at s0 s1
        go_wp2_with fail
        refine HLo.out.mono ?_; rintro e w5 hLo
        clear HLo
        rcases hLo with ⟨hne, -, -⟩ | ⟨-, vl, P, rfl, hPm, hPo, hB5⟩
        · exact absurd HOK.out.chk (fun h => hne (by rw [h]))
        obtain ⟨aL, cL, hvl, -, -⟩ := hPo.slice
        subst hvl
        have hPl : P.length = T.length := by have := congrArg List.length hPm; simpa using this
        have HB5 := hide_ (below_to HB4.out hB5)
        have KS5 := hide_ (KS4.out.later hB5)
        have KP5 := hide_ (KP4.out.later hB5)
        have HXo5 := hide_ (HXo.out.later hB5)
        obtain ⟨gm, hgm⟩ : ∃ g, g = w5.heap.size := ⟨_, rfl⟩
        obtain ⟨w6, hw6⟩ : ∃ wx, wx = w5.alloc (.cells #[.slice a T.length c, .slice ar R.length cr, .slice ax X.length cx, .slice aL P.length cL, .bool true, .slice none 0 0, .slice none 0 0] 66) := ⟨_, rfl⟩
        have hB6 : Below w5.heap.size w5 w6 := by rw [hw6]; exact below1 _ _
        have k6 : Blk w6 gm 66 [.slice a T.length c, .slice ar R.length cr, .slice ax X.length cx, .slice aL P.length cL, .bool true, .slice none 0 0, .slice none 0 0] := by rw [hw6, hgm]; exact Blk.newA w5 _ _
        have HM6 : Hid (Rm w6 gm gm (.slice a T.length c) (.slice ar R.length cr) (.slice ax X.length cx) (.slice aL P.length cL) (zC T X 0) (zE T X 0)) := hide_ ⟨Nat.le_refl _, _, _, k6, COwn.nil _ _, IOwn.nil _ _⟩
        have HN6 : Hid (Rn gm w6 a T ax X aL) := hide_ ⟨Tc.of (hT.out.later HB5.out) (by omega) hB6, Xc.of HXo5.out (by omega) hB6, by
          have := Lc.of hPo (B := gm) (by omega) hB6
          rw [hPm, HXe.out] at this
          exact this⟩
        have HPl := hide_ hPl
        have KS6 := hide_ (KS5.out.later hB6)
        have KP6 := hide_ (KP5.out.later hB6)
        have hwb : w.heap.size + 1 < gm := by rw [hgm]; exact KP5.out.lt
        have hz6 : gm ≤ w6.heap.size := by rw [hgm]; exact hB6.size
        have HBw6 := hide_ (below_to HB5.out hB6)
        have s0' := KS5.out.cell 0; have s1' := KS5.out.cell 1
        simp at s0' s1'
        clear hPm hPo hB5 hB6 k6 hPl KS4 KP4 KS5 KP5 HXo HXo5 s0 s1 HB4 HB5
        go_upto_region 13 with fail
        rw [← hw6, ← hgm]
        clear hw6 s0' s1' hgm
        go_loopw [11] (fun x11 wr => ∃ (i : Nat), i ≤ T.length ∧ x11 = .int .i64 (i : Int) ∧ Hid (Rm wr gm gm (.slice a T.length c) (.slice ar R.length cr) (.slice ax X.length cx) (.slice aL P.length cL) (zC T X i) (zE T X i)) ∧ Hid (Km gm w6 wr)) (fun x11 _ => T.length - (intOf x11).toNat)
        case atStart => exact ⟨0, Nat.zero_le _, rfl, HM6, hide_ (Km.refl _ _)⟩
        case round =>
          obtain ⟨i, hi, rfl, HMq, HKq⟩ := hrel
          generalize wr = wq at *
          clear HM6
          have q0 := (KS6.out.below (HKq.out.below hz6) (by omega)).cell 0
          simp at q0
          by_cases hlt : i < T.length
          · have hlt' : (i : Int) < T.length := by omega
            have hx : T[i]? = some (T[i]'hlt) := List.getElem?_eq_getElem hlt
            have hok1 := HOK.out.ty i hlt
            rw [show T.getD i ty0 = T[i]'hlt by simp [List.getD, hlt]] at hok1
            have hcl := HCl.out i hi
            obtain ⟨ae, ce, vC, g, cap, w7, k1, ⟨ac, cc, hvc⟩, r1, k2, hM7, hK7⟩ := HMq.out.drew.entry ((zC T X i).length : Int) (by rw [zE_len]; omega)
            subst hvc
            rw [zE_len] at k1 r1 k2 hM7 hK7
            have HCs : Hid (zC T X i ++ zrP T X (T[i]'hlt) ((zC T X i).length : Int) = zC T X (i + 1)) := hide_ (by show _ = zC T X i ++ _; rw [tyA_at hx])
            have HEs : Hid (zE T X i ++ [((zC T X i).length : Int)] = zE T X (i + 1)) := hide_ (zE_succ T X i).symm
            rw [HEs.out] at hM7
            obtain ⟨w8, hw8⟩ : ∃ wx, wx = w7.setCell ⟨gm, 6, none⟩ (.slice (some ⟨g, 0, none⟩) (i + 1) cap) := ⟨_, rfl⟩
            rw [← hw8] at hM7 hK7
            have HK8 := hide_ (HKq.out.trans ((Km.drew wq).trans hK7))
            have hRt2 := rroutine_any gm gm a ax aL c X.length cx P.length cL (.slice ar R.length cr) T X (zC T X i) (zE T X (i + 1)) i (T[i]'hlt).k (T[i]'hlt).n (T[i]'hlt).e (T[i]'hlt).ps w8 (by omega) hx (hide_ hok1) rfl HXl.out HPl.out.symm (hide_ (fun h8 => HV.out i _ hx h8)) (hide_ (HN6.out.km hz6 HK8.out)) (hide_ hM7)
            have e9 : (⟨(T[i]'hlt).k, (T[i]'hlt).n, (T[i]'hlt).e, (T[i]'hlt).ps⟩ : Ty) = T[i]'hlt := rfl
            rw [e9, HCs.out] at hRt2
            have HRt := hide_ hRt2
            obtain ⟨lc, hlc⟩ : ∃ l, (zC T X i).length = l := ⟨_, rfl⟩
            rw [hlc] at k1 k2 r1
            have HSS : Hid (∀ w', Below wq.heap.size wq w' → (fun w' => w'.cell? ⟨gm, 6, none⟩ = some (.slice ae i ce) ∧ w'.cell? ⟨gm, 5, none⟩ = some (.slice ac lc cc)) w') := hide_ (fun w' hb => by
              have x5 := (Blk.later (w := wq) k1 hb).cell 5; have x6 := (Blk.later (w := wq) k1 hb).cell 6
              simp at x5 x6
              exact ⟨x6, x5⟩)
            have HS2 : Hid ((fun w' => w'.cell? ⟨gm, 6, none⟩ = some (.slice ae i ce) ∧ w'.cell? ⟨gm, 5, none⟩ = some (.slice ac lc cc)) w7) := hide_ (by
              have x5 := k2.cell 5; have x6 := k2.cell 6
              simp at x5 x6
              exact ⟨x6, x5⟩)
            have HFz := hide_ (fun o => k2.frozen o)
            have HR := hide_ r1
            clear hx hok1 HCs hRt2 e9 k1 k2 r1 hM7 hK7 HEs HMq hlc hcl
            go_upto_region 15 with fail
            clear q0
            refine wp_region_last 17 (fun w' => w'.cell? ⟨gm, 6, none⟩ = some (.slice ae i ce) ∧ w'.cell? ⟨gm, 5, none⟩ = some (.slice ac lc cc)) (by kernel_rfl) (HSS.out _ ((Below.refl wq.heap.size wq).drew)) (fun hHeld => ?_)
            refine wpAnyF_take [17] (by kernel_rfl) (i := 0) (v := ?ve1) rfl (by kernel_rfl) (by kernel_rfl) (by kernel_rfl) (fun _ _ _ h => h) (Or.inl ⟨by kernel_rfl, ?hye1⟩) hHeld ?reste1
            case hye1 => intro w' hSw; (try dsimp only at hSw); go_simp; try with_reducible rfl
            simp only [Act.put]
            refine wpAnyF_take [17] (by kernel_rfl) (i := 1) (v := ?ve2) rfl (by kernel_rfl) (by kernel_rfl) (by kernel_rfl) (fun _ _ _ h => h) (Or.inl ⟨by kernel_rfl, ?hye2⟩) hHeld ?reste2
            case hye2 => intro w' hSw; (try dsimp only at hSw); go_simp; try with_reducible rfl
            simp only [Act.put]
            refine wpAnyF_take [17] (by kernel_rfl) (i := 2) (v := ?ve3) rfl (by kernel_rfl) (by kernel_rfl) (by kernel_rfl) (fun _ _ _ h => h) (Or.inl ⟨by kernel_rfl, ?hye3⟩) hHeld ?reste3
            case hye3 => intro w' hSw; (try dsimp only at hSw); go_simp; try with_reducible rfl
            simp only [Act.put]
            refine wpAnyF_take [17] (by kernel_rfl) (i := 3) (v := ?ve4) rfl (by kernel_rfl) (by kernel_rfl) (by kernel_rfl) (fun _ _ _ h => h) (Or.inl ⟨by kernel_rfl, ?hye4⟩) hHeld ?reste4
            case hye4 => intro w' hSw; (try dsimp only at hSw); go_simp; try with_reducible rfl
            simp only [Act.put]
            refine wpAnyF_take [17] (by kernel_rfl) (i := 4) (v := ?ve5) rfl (by kernel_rfl) (by kernel_rfl) (by kernel_rfl) (fun _ _ _ h => h) (Or.inl ⟨by kernel_rfl, ?hye5⟩) hHeld ?reste5
            case hye5 => intro w' hSw; (try dsimp only at hSw); go_simp; try with_reducible rfl
            simp only [Act.put]
            refine wpAnyF_take [17] (by kernel_rfl) (i := 5) (v := ?ve6) rfl (by kernel_rfl) (by kernel_rfl) (by kernel_rfl) (fun _ _ _ h => h) (Or.inl ⟨by kernel_rfl, ?hye6⟩) hHeld ?reste6
            case hye6 => intro w' hSw; (try dsimp only at hSw); go_simp; try with_reducible rfl
            simp only [Act.put]
            refine wpAnyF_take [17] (by kernel_rfl) (i := 6) (v := ?ve7) rfl (by kernel_rfl) (by kernel_rfl) (by kernel_rfl) (fun _ _ _ h => h) (Or.inl ⟨by kernel_rfl, ?hye7⟩) hHeld ?reste7
            case hye7 => intro w' hSw; (try dsimp only at hSw); go_simp; try with_reducible rfl
            simp only [Act.put]
            refine wpAnyF_take [17] (by kernel_rfl) (i := 7) (v := ?ve8) rfl (by kernel_rfl) (by kernel_rfl) (by kernel_rfl) (fun _ _ _ h => h) (Or.inl ⟨by kernel_rfl, ?hye8⟩) hHeld ?reste8
            case hye8 => intro w' hSw; (try dsimp only at hSw); go_simp; try with_reducible rfl
            simp only [Act.put]
            refine wpAnyF_take [17] (by kernel_rfl) (i := 8) (v := ?ve9) rfl (by kernel_rfl) (by kernel_rfl) (by kernel_rfl) (fun _ _ _ h => h) (Or.inl ⟨by kernel_rfl, ?hye9⟩) hHeld ?reste9
            case hye9 => intro w' hSw; (try dsimp only at hSw); go_simp; try with_reducible rfl
            simp only [Act.put]
            refine wpAnyF_take [17] (by kernel_rfl) (i := 9) (v := ?ve10) rfl (by kernel_rfl) (by kernel_rfl) (by kernel_rfl) (fun _ _ _ h => h) (Or.inl ⟨by kernel_rfl, ?hye10⟩) hHeld ?reste10
            case hye10 => intro w' hSw; (try dsimp only at hSw); go_simp; try with_reducible rfl
            simp only [Act.put]
            refine wpAnyF_take [17] (by kernel_rfl) (i := 10) (v := ?ve11) rfl (by kernel_rfl) (by kernel_rfl) (by kernel_rfl) (fun _ _ _ h => h) (Or.inl ⟨by kernel_rfl, ?hye11⟩) hHeld ?reste11
            case hye11 => intro w' hSw; (try dsimp only at hSw); go_simp; try with_reducible rfl
            simp only [Act.put]
            refine wpAnyF_take [17] (by kernel_rfl) (i := 11) (v := ?ve12) rfl (by kernel_rfl) (by kernel_rfl) (by kernel_rfl) (fun _ _ _ h => h) (Or.inl ⟨by kernel_rfl, ?hye12⟩) hHeld ?reste12
            case hye12 => intro w' hSw; (try dsimp only at hSw); go_simp; try with_reducible rfl
            simp only [Act.put]
            refine wpAnyF_ready (rs := [12]) (by kernel_rfl) (by simp) ?_
            refine AllReadyF.cons rfl (fun K hK => ?_) AllReadyF.nil
            go_simp
            refine hK.out _ _ (HSS.out _ (below_to ((Below.refl wq.heap.size wq).drew) (below1 wq.drew _))) (fun hHeld => ?_)
            clear hK K
            refine wpAnyF_ready (rs := [13]) (by kernel_rfl) (by simp) ?_
            refine AllReadyF.cons rfl (fun K hK => ?_) AllReadyF.nil
            refine step_append_run rfl (.tmp 59) (.tmp 66) 28 28 rfl (v := .slice ae i ce) (u := .slice (some ⟨wq.heap.size, 0, none⟩) 1 1) (by kernel_rfl) (by kernel_rfl) HR.out ?_
            simp only [Act.put]
            refine hK.out _ _ (HS2.out) (fun hHeld => ?_)
            clear hK K
            refine wpAnyF_take [17, 16, 15] (by kernel_rfl) (i := 14) (v := ?ve13) rfl (by kernel_rfl) (by kernel_rfl) (by kernel_rfl) (fun _ _ _ h => h) (Or.inl ⟨by kernel_rfl, ?hye13⟩) hHeld ?reste13
            case hye13 => intro w' hSw; (try dsimp only at hSw); go_simp; try with_reducible rfl
            simp only [Act.put]
            refine wpAnyF_take [17, 16] (by kernel_rfl) (i := 15) (v := ?ve14) rfl (by kernel_rfl) (by kernel_rfl) (by kernel_rfl) (fun _ _ _ h => h) (Or.inl ⟨by kernel_rfl, ?hye14⟩) hHeld ?reste14
            case hye14 => intro w' hSw; (try dsimp only at hSw); go_simp; try with_reducible rfl
            simp only [Act.put]
            refine wpAnyF_take [17] (by kernel_rfl) (i := 16) (v := ?ve15) rfl (by kernel_rfl) (by kernel_rfl) (by kernel_rfl) (fun _ _ _ h => h) (Or.inl ⟨by kernel_rfl, ?hye15⟩) hHeld ?reste15
            case hye15 => intro w' hSw; (try dsimp only at hSw); go_simp; try with_reducible rfl
            simp only [Act.put]
            refine wpAnyF_ready (rs := [17]) (by kernel_rfl) (by simp) ?_
            refine AllReadyF.last rfl (fun K hK => ?_)
            have q2 := HS2.out.1; have qz := HFz.out 6
            go_simp
            refine hK.out _ _ ?_
            clear hK K
            refine wpAnyF_done (by kernel_rfl) ?_ _
            rw [← hw8]
            clear hw8 HR HSS HS2 HFz
            go_wp2_with (go_at_call 19; refine HRt.out.mono ?_; rintro e w9 ⟨rfl, HM9, HK9⟩)
            go_roundw
            case rel => exact ⟨i + 1, by omega, by go_num, HM9, hide_ (HK8.out.trans HK9.out)⟩
            case measure => simp [intOf]; omega
          · obtain rfl : i = T.length := by omega
            have hlt'' : ¬ ((T.length : Int)) < (T.length : Int) := by omega
            obtain ⟨vC, vE, kb7, hc7, he7⟩ := HMq.out.bm
            obtain ⟨ac, cc, hvc, -⟩ := hc7.row
            obtain ⟨ae, ce, hve⟩ := he7.slice
            subst hvc hve
            have c4 := kb7.cell 4; have c5 := kb7.cell 5; have c6 := kb7.cell 6
            simp at c4 c5 c6
            rw [zE_len] at c6
            have hBf : Below w.heap.size w wq := HBw6.out.trans (below_le (HKq.out.below hz6) (by omega))
            have HBf := hide_ hBf
            have kp2 := KP6.out.below (HKq.out.below hz6) hwb
            have p0 := kp2.cell 0; have p1 := kp2.cell 1; have p2 := kp2.cell 2
            have pz := fun i => kp2.frozen i
            simp at p0 p1 p2
            have hTC := zC_len2 T X T.length
            have hcl := HCl.out T.length (Nat.le_refl _)
            by_cases hbig : 1048576 < (zC T X T.length).length
            · have hbig' : (1048576 : Int) < ((zC T X T.length).length : Int) := by omega
              have HA : Hid (zA T R = 4) := hide_ (by rw [HAd.out, if_pos hbig])
              have HK2 := hide_ (setP kp2 (.bool false) (.slice none 0 0) (.slice none 0 0))
              clear hBf kp2 hbig kb7 hc7 he7
              go_wp2_with fail
              refine retPe rfl rfl rfl HK2.out ?_
              exact ⟨_, _, by rw [HA.out]; rfl, hide_ (by unfold zX; rw [HA.out, if_neg (by decide)]; exact COwn.nil _ _), hide_ (by unfold zY; rw [HA.out, if_neg (by decide)]; exact IOwn.nil _ _), HBf.out.trans ((upd3 _ _ _ _ _).below _ HBf.out.size (fun k hk => by omega))⟩
            · have hbig' : ¬ (1048576 : Int) < ((zC T X T.length).length : Int) := by omega
              have hbig2 : ¬ (1048576 : Int) < (T.length : Int) := by omega
              have HA : Hid (zA T R = 0) := hide_ (by rw [HAd.out, if_neg hbig])
              have HK2 := hide_ (setP kp2 (.bool true) (.slice ac (zC T X T.length).length cc) (.slice ae T.length ce))
              have HCf : Hid (COwn (((wq.setCell ⟨w.heap.size + 1, 0, none⟩ (.bool true)).setCell ⟨w.heap.size + 1, 1, none⟩ (.slice ac (zC T X T.length).length cc)).setCell ⟨w.heap.size + 1, 2, none⟩ (.slice ae T.length ce)) w.heap.size (.slice ac (zC T X T.length).length cc) (zX T R)) := hide_ (by
                unfold zX
                rw [HA.out, if_pos rfl, HXe.out]
                exact own_base (ownS_upd hc7 (upd3 _ _ _ _ _) (fun k e hk => by subst hk; exact notC hc7 kp2 (by decide) e)) (by omega))
              have HEf : Hid (IOwn (((wq.setCell ⟨w.heap.size + 1, 0, none⟩ (.bool true)).setCell ⟨w.heap.size + 1, 1, none⟩ (.slice ac (zC T X T.length).length cc)).setCell ⟨w.heap.size + 1, 2, none⟩ (.slice ae T.length ce)) w.heap.size (.slice ae T.length ce) (zY T R)) := hide_ (by
                unfold zY
                rw [HA.out, if_pos rfl, HXe.out]
                rw [zE_len] at he7
                exact own_base (he7.upd (upd3 _ _ _ _ _) (fun k e hk => by subst hk; exact notI he7 kp2 (by decide) e)) (by omega))
              clear hBf kp2 kb7 hc7 he7 hbig
              go_wp2_with fail
              refine retPe rfl rfl rfl HK2.out ?_
              exact ⟨_, _, by rw [HA.out]; rfl, HCf, HEf, HBf.out.trans ((upd3 _ _ _ _ _).below _ HBf.out.size (fun k hk => by omega))⟩
end Go.Proofs.Ytncndgfaalojpaa
