import Derived.Test.YtbgjgbddpcofcaaGreatDoorPart36
import Derived.Test.YtbgjgbddpcofcaaGreatDoorPart02

/- mortiselaw09's copied: a source of its own. -/
namespace Go.Proofs.YtbgjgbddpcofcaaGreatDoor
open Go.RowKit
set_option linter.unusedVariables false

/-- A copy under way. -/
def CpY (w wr : World) (u1 : Value) (D : List Df) (vd : Value) (vs : List Value) : Prop :=
  Src wr w.heap.size vd D vs ∧ Blk wr w.heap.size 24 [u1] ∧ Blk wr (w.heap.size + 1) 24 [.slice none 0 0] ∧ Blk wr (w.heap.size + 2) 24 [vd] ∧ Below w.heap.size w wr
theorem CpY.later {w wr wr' : World} {u1 vd : Value} {D : List Df} {vs : List Value} (h : CpY w wr u1 D vd vs) (hB : Below wr.heap.size wr wr') : CpY w wr' u1 D vd vs :=
  ⟨h.1.later hB, h.2.1.later hB, h.2.2.1.later hB, h.2.2.2.1.later hB, h.2.2.2.2.trans (hB.mono h.2.2.2.2.size)⟩
theorem CpY.push {w wr : World} {u1 vd : Value} {D : List Df} {vs : List Value} (h : CpY w wr u1 D vd vs) (d : Df) (nv : Value) (hv : wr.ownsRow w.heap.size 40 7 nv d.ty.length (cellsN d.ty)) (hn : ∀ (i : Nat) (u : Value) (k : Nat), vs[i]? = some u → u.ownBlock = some k → nv.ownBlock ≠ some k) (hl : D.length ≤ 2932031007401) (hone : nv.oneCell' = true) :
    ∃ g cap w', (Builtin.append_ #[22, 22] 22 #[vd, .slice (some ⟨wr.heap.size, 0, none⟩) 1 1]).run Tryz.prog (wr.alloc (.cells #[.string d.name, .int .i64 d.a, nv] 38)) = .ok (.slice (some ⟨g, 0, none⟩) (D.length + 1) cap) w' ∧
      Blk w' (w.heap.size + 2) 24 [vd] ∧ Upd (fun k => vd.ownBlock = some k) wr w' ∧ CpY w (w'.setCell ⟨w.heap.size + 2, 0, none⟩ (.slice (some ⟨g, 0, none⟩) (D.length + 1) cap)) u1 (D ++ [d]) (.slice (some ⟨g, 0, none⟩) (D.length + 1) cap) (vs ++ [nv]) := by
  obtain ⟨h1, h2, h3, h4, h5⟩ := h
  obtain ⟨g, cap, w', r, S, U, C⟩ := h1.push d nv hv hn hl h5.size hone
  have hty : ∀ (b : Nat) (t : TypeId) (x : List Value), Blk wr b t x → t ≠ 38 → ¬ vd.ownBlock = some b := fun b t x hb ht e => by
    obtain ⟨zs, hz⟩ := ownS_type h1.2.1 e
    exact ht (blk_type hb hz)
  have j2 := h2.upd U (hty _ _ _ h2 (by decide))
  have j3 := h3.upd U (hty _ _ _ h3 (by decide))
  have j4 := h4.upd U (hty _ _ _ h4 (by decide))
  have hU : Upd (fun k => k = w.heap.size + 2) w' (w'.setCell ⟨w.heap.size + 2, 0, none⟩ (.slice (some ⟨g, 0, none⟩) (D.length + 1) cap)) := (Upd.refl _ w').set _ _ (.inl rfl)
  have hge : ∀ k, vd.ownBlock = some k → w.heap.size ≤ k := fun k hk => (h1.2.1.lt k hk).1
  have hB' : Below w.heap.size w w' := h5.trans (U.below _ h5.size hge)
  exact ⟨g, cap, w', r, j4, U, S.other hU j4 (by decide) (by decide), j2.other _ _ (show w.heap.size ≠ w.heap.size + 2 by omega), j3.other _ _ (show w.heap.size + 1 ≠ w.heap.size + 2 by omega), by have := j4.set 0 (.slice (some ⟨g, 0, none⟩) (D.length + 1) cap); simpa using this, hB'.trans (hU.below _ hB'.size (fun k e => by omega))⟩
def CpyTo (w : World) (D : List Df) (e : Ending) (w' : World) : Prop := ∃ vd vs, e = .returned (.agg #[vd]) ∧ Hid (Src w' w.heap.size vd D vs) ∧ Hid (Below w.heap.size w w')
set_option maxRecDepth 100000 in
set_option maxHeartbeats 8000000 in
theorem copied9_any (a : Option Addr) (c n : Nat) (D : List Df) (w : World) (hn : D.length = n) (hS : Hid (Wt D)) (hR : Hid (DRow w a D)) :
    Calls Tryz.prog 6 #[.agg #[.slice a n c]] w fun e w' => CpyTo w D e w' := by
  have hn63 : n ≤ 2932031007401 := by rw [← hn]; exact hS.out.1
  have Hn := hide_ hn
  clear hn
  obtain ⟨wa, hwa⟩ : ∃ wa, wa = ((w.alloc (.cells #[.slice a n c] 24)).alloc (.cells #[.slice none 0 0] 24)).alloc (.cells #[.slice none 0 0] 24) := ⟨_, rfl⟩
  have hT0 : CpY w wa (.slice a n c) [] (.slice none 0 0) [] := by
    have k1 := Blk.newA w #[.slice a n c] 24
    have k2 := Blk.newA (w.alloc (.cells #[.slice a n c] 24)) #[.slice none 0 0] 24
    have k3 := Blk.newA ((w.alloc (.cells #[.slice a n c] 24)).alloc (.cells #[.slice none 0 0] 24)) #[.slice none 0 0] 24
    rw [hwa]
    exact ⟨Src.nil _ _, (k1.alloc _).alloc _, by have := k2.alloc (.cells #[.slice none 0 0] 24); simpa using this, by simpa using k3, (((Below.refl w.heap.size w).alloc (Nat.le_refl _) _).alloc (by simp) _).alloc (by simp; omega) _⟩
  have HT0 := hide_ hT0
  clear hT0
  have hbd := bldD
  go_enter Tryz.func6, Tryz.ntmps6
  go_upto_region 2 with fail
  rw [← hwa]
  clear hwa
  go_wp2_with fail
  go_loopw [4] (fun x4 wr => ∃ (k : Nat) (vd : Value) (vs : List Value), k ≤ n ∧ x4 = .int .i64 (k : Int) ∧ Hid (CpY w wr (.slice a n c) (D.take k) vd vs)) (fun x4 _ => n - (intOf x4).toNat)
  case atStart => exact ⟨0, _, _, Nat.zero_le _, rfl, by rw [List.take_zero]; exact HT0⟩
  case round =>
    clear HT0
    obtain ⟨k, vd, vs, hk, rfl, HT⟩ := hrel
    generalize wr = wq at *
    obtain ⟨t1, t2, t3, t4, t5⟩ := HT.out
    have x0 := t2.cell 0
    simp at x0
    by_cases hlt : k < n
    · have hlt' : (k : Int) < n := by omega
      have hkD : k < D.length := by rw [Hn.out]; exact hlt
      obtain ⟨b, o, rfl, hb, hcs⟩ := hR.out.open (by omega)
      have hd : D[k]? = some (D[k]'hkD) := List.getElem?_eq_getElem hkD
      obtain ⟨va, vc, h1, hv1, hvn, hN⟩ := hcs k _ hd
      have hty : (D[k]'hkD).ty.length ≤ 1954687338267 := hS.out.2 _ (List.getElem_mem hkD)
      have HTk : Hid (D.take (k + 1) = D.take k ++ [D[k]'hkD]) := by show _ = _; rw [List.take_add_one, hd]; rfl
      generalize D[k]'hkD = d at *
      have g0 := fun j hj => (t5.cell (p := ⟨b, o + k * 3 + j, none⟩) hb).trans (h1 j hj)
      have p0 : wq.cell? ⟨b, o + k * 3, none⟩ = some (.string d.name) := g0 0 (by decide)
      have p1 : wq.cell? ⟨b, o + k * 3 + 1, none⟩ = some (.int .i64 d.a) := g0 1 (by decide)
      have p2 : wq.cell? ⟨b, o + k * 3 + 2, none⟩ = some (.slice va d.ty.length vc) := g0 2 (by decide)
      have hlk : (D.take k).length = k := by rw [List.length_take]; omega
      obtain ⟨wz, hwz⟩ : ∃ wz, wz = wq.alloc (.cells #[.string d.name, .int .i64 d.a, .slice va d.ty.length vc] 38) := ⟨_, rfl⟩
      have kz : Blk wz wq.heap.size 38 [.string d.name, .int .i64 d.a, .slice va d.ty.length vc] := by rw [hwz]; exact Blk.newA wq #[.string d.name, .int .i64 d.a, .slice va d.ty.length vc] 38
      have hBz : Below wq.heap.size wq wz := by rw [hwz]; exact (Below.refl _ _).alloc (Nat.le_refl _) _
      have hBd : Below wz.heap.size wz wz.drew := (Below.refl _ _).drew
      have hBwz := t5.trans (hBz.mono t5.size)
      have hBwd := hBwz.trans (hBd.mono hBwz.size)
      obtain ⟨ga6, c6, w6, R6, O6, B6, N6⟩ := run_copyE wz.drew w.heap.size va vc d.ty (hN.later hBwd) hvn (by omega) hBwd.size
      have hq6 : Below wz.heap.size wz w6 := below_to hBd B6
      have T6 := HT.out.later (below_to hBz hq6)
      have kz6 := kz.later hq6
      have hne : ∀ (i : Nat) (u : Value) (j : Nat), vs[i]? = some u → u.ownBlock = some j → (Value.slice ga6 d.ty.length c6).ownBlock ≠ some j := fun i u j hu hj e => by
        obtain ⟨d', hd'⟩ := t1.d hu
        have h2 := own_lt (t1.2.2.1 i d' u hd' hu) hj
        have h3 := N6 j e
        have h4 := (below_to hBz hBd).size
        omega
      obtain ⟨g8, c8, w8, R8, K8, U8, T8⟩ := T6.push d (.slice ga6 d.ty.length c6) O6 hne (by rw [hlk]; omega) rfl
      rw [hlk] at R8 T8
      rw [← HTk.out] at T8
      obtain ⟨da, dc, hvi⟩ := own_slice t1.2.1
      rw [hlk] at hvi
      have kz8 := kz6.upd U8 (fun e => by have := own_lt t1.2.1 e; omega)
      have HSS : Hid (∀ w', Below wz.heap.size wz w' → (fun w' => w'.cell? ⟨w.heap.size + 2, 0, none⟩ = some vd ∧ w'.cell? ⟨wq.heap.size, 0, none⟩ = some (.string d.name) ∧ w'.cell? ⟨wq.heap.size, 1, none⟩ = some (.int .i64 d.a) ∧ w'.cell? ⟨wq.heap.size, 2, none⟩ = some (.slice va d.ty.length vc)) w') := hide_ (fun w' hb => by
        have y0 := (kz.later hb).cell 0; have y1 := (kz.later hb).cell 1; have y2 := (kz.later hb).cell 2
        have y3 := (t4.later (below_to hBz hb)).cell 0
        simp at y0 y1 y2 y3
        exact ⟨y3, y0, y1, y2⟩)
      have HS8 : Hid ((fun w' => w'.cell? ⟨w.heap.size + 2, 0, none⟩ = some vd ∧ w'.cell? ⟨wq.heap.size, 0, none⟩ = some (.string d.name) ∧ w'.cell? ⟨wq.heap.size, 1, none⟩ = some (.int .i64 d.a) ∧ w'.cell? ⟨wq.heap.size, 2, none⟩ = some (.slice va d.ty.length vc)) w8) := hide_ (by
        have y0 := kz8.cell 0; have y1 := kz8.cell 1; have y2 := kz8.cell 2
        have y3 := K8.cell 0
        simp at y0 y1 y2 y3
        exact ⟨y3, y0, y1, y2⟩)
      have HR6 := hide_ R6
      have HR8 := hide_ R8
      have HK8 := hide_ K8
      have HT8 := hide_ T8
      have HB6 := hide_ hq6
      subst hvi
      clear R6 R8 K8 U8 T8 T6 kz kz6 kz8 hBz hBd hBwz hBwd O6 B6 N6 hq6 hne t1 t3 t4 t5 HTk hN hlk h1 g0 HT hd hkD hcs
      go_upto_region 6 with fail
      rw [← hwz]
      clear hwz p0 p1 p2
      refine wp_region_last 14 (fun w' => w'.cell? ⟨w.heap.size + 2, 0, none⟩ = some (.slice da k dc) ∧ w'.cell? ⟨wq.heap.size, 0, none⟩ = some (.string d.name) ∧ w'.cell? ⟨wq.heap.size, 1, none⟩ = some (.int .i64 d.a) ∧ w'.cell? ⟨wq.heap.size, 2, none⟩ = some (.slice va d.ty.length vc)) (by kernel_rfl) (HSS.out _ ((Below.refl wz.heap.size wz).drew)) (fun hHeld => ?_)
      refine wpAnyF_take [14] (by kernel_rfl) (i := 0) (v := ?vo1) rfl (by kernel_rfl) (by kernel_rfl) (by kernel_rfl) (fun _ _ _ h => h) (Or.inl ⟨by kernel_rfl, ?hyo1⟩) hHeld ?resto1
      case hyo1 => intro w' hSw; (try dsimp only at hSw); go_simp; try with_reducible rfl
      simp only [Act.put]
      refine wpAnyF_take [14] (by kernel_rfl) (i := 1) (v := ?vo2) rfl (by kernel_rfl) (by kernel_rfl) (by kernel_rfl) (fun _ _ _ h => h) (Or.inl ⟨by kernel_rfl, ?hyo2⟩) hHeld ?resto2
      case hyo2 => intro w' hSw; (try dsimp only at hSw); go_simp; try with_reducible rfl
      simp only [Act.put]
      refine wpAnyF_take [14] (by kernel_rfl) (i := 2) (v := ?vo3) rfl (by kernel_rfl) (by kernel_rfl) (by kernel_rfl) (fun _ _ _ h => h) (Or.inl ⟨by kernel_rfl, ?hyo3⟩) hHeld ?resto3
      case hyo3 => intro w' hSw; (try dsimp only at hSw); go_simp; try with_reducible rfl
      simp only [Act.put]
      refine wpAnyF_take [14] (by kernel_rfl) (i := 3) (v := ?vo4) rfl (by kernel_rfl) (by kernel_rfl) (by kernel_rfl) (fun _ _ _ h => h) (Or.inl ⟨by kernel_rfl, ?hyo4⟩) hHeld ?resto4
      case hyo4 => intro w' hSw; (try dsimp only at hSw); go_simp; try with_reducible rfl
      simp only [Act.put]
      refine wpAnyF_take [14] (by kernel_rfl) (i := 4) (v := ?vo5) rfl (by kernel_rfl) (by kernel_rfl) (by kernel_rfl) (fun _ _ _ h => h) (Or.inl ⟨by kernel_rfl, ?hyo5⟩) hHeld ?resto5
      case hyo5 => intro w' hSw; (try dsimp only at hSw); go_simp; try with_reducible rfl
      simp only [Act.put]
      refine wpAnyF_take [14] (by kernel_rfl) (i := 5) (v := ?vo6) rfl (by kernel_rfl) (by kernel_rfl) (by kernel_rfl) (fun _ _ _ h => h) (Or.inl ⟨by kernel_rfl, ?hyo6⟩) hHeld ?resto6
      case hyo6 => intro w' hSw; (try dsimp only at hSw); go_simp; try with_reducible rfl
      simp only [Act.put]
      refine wpAnyF_take [14] (by kernel_rfl) (i := 7) (v := ?vo7) rfl (by kernel_rfl) (by kernel_rfl) (by kernel_rfl) (fun _ _ _ h => h) (Or.inl ⟨by kernel_rfl, ?hyo7⟩) hHeld ?resto7
      case hyo7 => intro w' hSw; (try dsimp only at hSw); go_simp; try with_reducible rfl
      simp only [Act.put]
      refine wpAnyF_take [14] (by kernel_rfl) (i := 8) (v := ?vo8) rfl (by kernel_rfl) (by kernel_rfl) (by kernel_rfl) (fun _ _ _ h => h) (Or.inl ⟨by kernel_rfl, ?hyo8⟩) hHeld ?resto8
      case hyo8 => intro w' hSw; (try dsimp only at hSw); go_simp; try with_reducible rfl
      simp only [Act.put]
      refine wpAnyF_ready (rs := [6]) (by kernel_rfl) (by simp) ?_
      refine AllReadyF.cons rfl (fun K hK => ?_) AllReadyF.nil
      go_simp
      refine hK.out _ _ (HSS.out _ (below_to ((Below.refl wz.heap.size wz).drew) ((Below.refl _ _).alloc (Nat.le_refl _) _))) (fun hHeld => ?_)
      clear hK K
      refine wpAnyF_ready (rs := [9]) (by kernel_rfl) (by simp) ?_
      refine AllReadyF.cons rfl (fun K hK => ?_) AllReadyF.nil
      refine step_append_run rfl (.tmp 24) (.tmp 26) 36 36 rfl (v := .slice (some ⟨wz.heap.size, 0, none⟩) 0 0) (u := .slice va d.ty.length vc) (by kernel_rfl) (by kernel_rfl) HR6.out ?_
      simp only [Act.put]
      refine hK.out _ _ (HSS.out _ HB6.out) (fun hHeld => ?_)
      clear hK K
      refine wpAnyF_take [14] (by kernel_rfl) (i := 10) (v := ?vo9) rfl (by kernel_rfl) (by kernel_rfl) (by kernel_rfl) (fun _ _ _ h => h) (Or.inl ⟨by kernel_rfl, ?hyo9⟩) hHeld ?resto9
      case hyo9 => intro w' hSw; (try dsimp only at hSw); go_simp; try with_reducible rfl
      simp only [Act.put]
      refine wpAnyF_ready (rs := [11]) (by kernel_rfl) (by simp) ?_
      refine AllReadyF.cons rfl (fun K hK => ?_) AllReadyF.nil
      go_simp
      refine hK.out _ _ (HSS.out _ (below_to HB6.out ((Below.refl _ _).alloc (Nat.le_refl _) _))) (fun hHeld => ?_)
      clear hK K
      refine wpAnyF_ready (rs := [12]) (by kernel_rfl) (by simp) ?_
      refine AllReadyF.cons rfl (fun K hK => ?_) AllReadyF.nil
      refine step_append_run rfl (.tmp 19) (.tmp 29) 22 22 rfl (v := .slice da k dc) (u := .slice (some ⟨w6.heap.size, 0, none⟩) 1 1) (by kernel_rfl) (by kernel_rfl) HR8.out ?_
      simp only [Act.put]
      refine hK.out _ _ (HS8.out) (fun hHeld => ?_)
      clear hK K
      refine wpAnyF_take [14] (by kernel_rfl) (i := 13) (v := ?vo10) rfl (by kernel_rfl) (by kernel_rfl) (by kernel_rfl) (fun _ _ _ h => h) (Or.inl ⟨by kernel_rfl, ?hyo10⟩) hHeld ?resto10
      case hyo10 => intro w' hSw; (try dsimp only at hSw); go_simp; try with_reducible rfl
      simp only [Act.put]
      refine wpAnyF_ready (rs := [14]) (by kernel_rfl) (by simp) ?_
      refine AllReadyF.last rfl (fun K hK => ?_)
      have q0 := HK8.out.cell 0; have qz := HK8.out.frozen 0
      simp at q0
      go_simp
      refine hK.out _ _ ?_
      clear hK K
      refine wpAnyF_done (by kernel_rfl) ?_ _
      go_wp2_with fail
      go_roundw
      case rel => exact ⟨k + 1, _, _, by omega, by go_num, HT8⟩
      case measure => simp [intOf]; omega
    · obtain rfl : k = n := by omega
      have hlt' : ¬ (k : Int) < (k : Int) := by omega
      have z0 := t4.cell 0; have z1 := t3.cell 0; have z2 := t3.frozen 0
      simp at z0 z1
      obtain ⟨da, dc, hvi⟩ := own_slice t1.2.1
      rw [show D.take k = D by rw [← Hn.out]; exact List.take_length] at t1 hvi
      have hu9 : Upd (fun j => j = w.heap.size + 1) wq (wq.setCell ⟨w.heap.size + 1, 0, none⟩ vd) := (Upd.refl _ wq).set _ _ (.inl rfl)
      have HSf := hide_ (t1.other hu9 t3 (by decide) (by decide))
      have HKf : Hid (Blk (wq.setCell ⟨w.heap.size + 1, 0, none⟩ vd) (w.heap.size + 1) 24 [vd]) := hide_ (by have := t3.set 0 vd; simpa using this)
      have HBf := hide_ (t5.trans (hu9.below _ t5.size (fun k e => by omega)))
      subst hvi
      clear HT t1 t2 t3 t4 t5 hu9
      go_wp2_with fail
      refine retS rfl rfl HKf.out ?_
      exact ⟨_, vs, rfl, HSf, HBf⟩
end Go.Proofs.YtbgjgbddpcofcaaGreatDoor
