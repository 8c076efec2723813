import Derived.Test.YtafljgjkcnbhbaaDoorPart19
import Derived.Test.YtafljgjkcnbhbaaDoorPart15

/- copied. -/
namespace Go.Proofs.YtafljgjkcnbhbaaDoor
open Go.RowKit
set_option linter.unusedVariables false

/-- The mark lies where it was laid. -/
def MkW (w : World) : Prop := 0 < w.heap.size ∧ ∀ j, j < 7 → w.cell? ⟨0, j, none⟩ = (ndc mkX)[j]?
def CopTo (w : World) (D : List Df) (e : Ending) (w' : World) : Prop := ∃ vdi vsi vdk vsk, e = .returned (.tuple #[.agg #[vdi], .agg #[vdk]]) ∧ Hid (Src w' w.heap.size vdi D vsi) ∧ Hid (Src w' w.heap.size vdk D vsk) ∧ Hid (Below w.heap.size w w') ∧ Hid (∀ g, vdi.ownBlock = some g → vdk.ownBlock ≠ some g)
set_option maxRecDepth 100000 in
set_option maxHeartbeats 8000000 in
theorem copied_any (a : Option Addr) (c n : Nat) (D : List Df) (w : World) (hn : D.length = n) (hS : Hid (Wt D)) (hR : Hid (DRow w a D)) (hM : Hid (MkW w)) :
    Calls Tryd.prog 6 #[.agg #[.slice a n c]] w fun e w' => CopTo w D e w' := by
  have hn63 : n ≤ 2932031007401 := by rw [← hn]; exact hS.out.1
  have Hn := hide_ hn
  clear hn
  obtain ⟨wa, hwa⟩ : ∃ wa, wa = ((((w.alloc (.cells #[.slice a n c] 24)).alloc (.cells #[.slice none 0 0] 24)).alloc (.cells #[.slice none 0 0] 24)).alloc (.cells #[.slice none 0 0] 24)).alloc (.cells #[.slice none 0 0] 24) := ⟨_, rfl⟩
  have hT0 : CpT w wa (.slice a n c) (w.heap.size + 3) (w.heap.size + 4) [] (.slice none 0 0) [] [] (.slice none 0 0) [] := by
    have k1 := Blk.newA w #[.slice a n c] 24
    have k2 := Blk.newA (w.alloc (.cells #[.slice a n c] 24)) #[.slice none 0 0] 24
    have k3 := Blk.newA ((w.alloc (.cells #[.slice a n c] 24)).alloc (.cells #[.slice none 0 0] 24)) #[.slice none 0 0] 24
    have k4 := Blk.newA (((w.alloc (.cells #[.slice a n c] 24)).alloc (.cells #[.slice none 0 0] 24)).alloc (.cells #[.slice none 0 0] 24)) #[.slice none 0 0] 24
    have k5 := Blk.newA ((((w.alloc (.cells #[.slice a n c] 24)).alloc (.cells #[.slice none 0 0] 24)).alloc (.cells #[.slice none 0 0] 24)).alloc (.cells #[.slice none 0 0] 24)) #[.slice none 0 0] 24
    rw [hwa]
    refine ⟨Src.nil _ _, Src.nil _ _, by have := k4.alloc (.cells #[.slice none 0 0] 24); simpa using this, by simpa using k5, ⟨by omega, by omega, by omega⟩, (((k1.alloc _).alloc _).alloc _).alloc _, by have := ((k2.alloc (.cells #[.slice none 0 0] 24)).alloc (.cells #[.slice none 0 0] 24)).alloc (.cells #[.slice none 0 0] 24); simpa using this, by have := (k3.alloc (.cells #[.slice none 0 0] 24)).alloc (.cells #[.slice none 0 0] 24); simpa using this, ((((((Below.refl w.heap.size w).alloc (Nat.le_refl _) _).alloc (by simp) _).alloc (by simp; omega) _).alloc (by simp; omega) _).alloc (by simp; omega) _), fun g hg => by cases hg⟩
  have HT0 := hide_ hT0
  clear hT0
  have hbd := bldD
  go_enter Tryd.func6, Tryd.ntmps6
  go_upto_region 2 with fail
  rw [← hwa]
  clear hwa
  go_wp2_with fail
  go_loopw [6] (fun x6 wr => ∃ (k : Nat) (vdi vdk : Value) (vsi vsk : List Value), k ≤ n ∧ x6 = .int .i64 (k : Int) ∧ Hid (CpT w wr (.slice a n c) (w.heap.size + 3) (w.heap.size + 4) (D.take k) vdi vsi (D.take k) vdk vsk)) (fun x6 _ => n - (intOf x6).toNat)
  case atStart => exact ⟨0, _, _, _, _, Nat.zero_le _, rfl, by rw [List.take_zero]; exact HT0⟩
  case round =>
    clear HT0
    obtain ⟨k, vdi, vdk, vsi, vsk, hk, rfl, HT⟩ := hrel
    generalize wr = wq at *
    obtain ⟨t1, t2, t3, t4, t5, t6, t7, t8, t9, t10⟩ := HT.out
    have x0 := t6.cell 0
    simp at x0
    by_cases hlt : k < n
    · have hlt' : (k : Int) < n := by omega
      have hkD : k < D.length := by rw [Hn.out]; exact hlt
      obtain ⟨b, o, rfl, hb, hcs⟩ := hR.out.open (by omega)
      have hd : D[k]? = some (D[k]'hkD) := List.getElem?_eq_getElem hkD
      obtain ⟨va, vc, h1, hv1, hvn, hN⟩ := hcs k _ hd
      have hty : (D[k]'hkD).ty.length ≤ 1954687338267 := hS.out.2 _ (List.getElem_mem hkD)
      have HTk : Hid (D.take (k + 1) = D.take k ++ [D[k]'hkD]) := by show _ = _; rw [List.take_add_one, hd]; rfl
      generalize D[k]'hkD = d at *
      have g0 := fun j hj => (t9.cell (p := ⟨b, o + k * 3 + j, none⟩) hb).trans (h1 j hj)
      have p0 : wq.cell? ⟨b, o + k * 3, none⟩ = some (.string d.name) := g0 0 (by decide)
      have p1 : wq.cell? ⟨b, o + k * 3 + 1, none⟩ = some (.int .i64 d.a) := g0 1 (by decide)
      have p2 : wq.cell? ⟨b, o + k * 3 + 2, none⟩ = some (.slice va d.ty.length vc) := g0 2 (by decide)
      have hlk : (D.take k).length = k := by rw [List.length_take]; omega
      -- the box of the definition
      obtain ⟨wz, hwz⟩ : ∃ wz, wz = wq.alloc (.cells #[.string d.name, .int .i64 d.a, .slice va d.ty.length vc] 41) := ⟨_, rfl⟩
      have kz : Blk wz wq.heap.size 41 [.string d.name, .int .i64 d.a, .slice va d.ty.length vc] := by rw [hwz]; exact Blk.newA wq #[.string d.name, .int .i64 d.a, .slice va d.ty.length vc] 41
      have hBz : Below wq.heap.size wq wz := by rw [hwz]; exact (Below.refl _ _).alloc (Nat.le_refl _) _
      have hsz : wz.heap.size = wq.heap.size + 1 := by rw [hwz]; simp
      have hBwz := t9.trans (hBz.mono t9.size)
      obtain ⟨ga6, c6, w6, R6, O6, B6, N6⟩ := run_copyE wz w.heap.size va vc d.ty (hN.later hBwz) hvn (by omega) hBwz.size
      obtain ⟨g7, c7, w7, R7, O7, U7, C7, L7, M7⟩ := markX_push O6 hty (Nat.le_trans hBwz.size B6.size)
      have hu7 : Below wz.heap.size wz w7 := B6.trans (U7.below _ B6.size (fun j hj => N6 j hj))
      have hg7 : wz.heap.size ≤ g7 := by
        rcases C7 with h | h
        · exact N6 _ h
        · exact Nat.le_trans B6.size h
      have T7 := HT.out.later (below_to hBz hu7)
      have kz7 := kz.later hu7
      have M7c := fun j hj => ((hBwz.trans (B6.mono hBwz.size)).cell (p := ⟨0, j, none⟩) hM.out.1).trans (hM.out.2 j hj)
      obtain ⟨da, dc, hvi⟩ := own_slice t1.2.1
      obtain ⟨ea, ec, hvk⟩ := own_slice t2.2.1
      rw [hlk] at hvi hvk
      have hno1 : ∀ k', vdi.ownBlock = some k' → k' < wq.heap.size := fun k' h => own_lt t1.2.1 h
      have hno2 : ∀ k', vdk.ownBlock = some k' → k' < wq.heap.size := fun k' h => own_lt t2.2.1 h
      -- in
      obtain ⟨g8, c8, w8', R8, X8, Z8, S8, K8, T8⟩ := (T7.later ((Below.refl _ _).drew)).push d (.slice (some ⟨g7, 0, none⟩) d.ty.length c7) (ownS_upd O7 (Upd.of_below (S := fun _ => False) ((Below.refl _ _).drew)) (fun _ _ h => h)) (fun i u j hu hj e => by
        obtain ⟨d', hd'⟩ := t1.d hu
        have h1 := own_lt (t1.2.2.1 i d' u hd' hu) hj
        have h2 := own_is e
        omega) (by rw [hlk]; omega) rfl
      obtain ⟨w8, hw8⟩ : ∃ w8, w8 = w8'.setCell ⟨w.heap.size + 3, 0, none⟩ (.slice (some ⟨g8, 0, none⟩) ((D.take k).length + 1) c8) := ⟨_, rfl⟩
      have kz8 : Blk w8 wq.heap.size 41 [.string d.name, .int .i64 d.a, .slice va d.ty.length vc] := by
        rw [hw8]
        exact K8 _ _ _ kz7.drew (fun e => by have := hno1 _ e; omega) (by have := t3.lt; omega)
      have kz8p : Blk w8' wq.heap.size 41 [.string d.name, .int .i64 d.a, .slice va d.ty.length vc] := by
        have h := kz8
        rw [hw8] at h
        unfold Blk at h ⊢
        rw [← Below.heap_setCell w8' ⟨w.heap.size + 3, 0, none⟩ (.slice (some ⟨g8, 0, none⟩) ((D.take k).length + 1) c8) wq.heap.size (by have := t3.lt; show wq.heap.size ≠ w.heap.size + 3; omega)]
        exact h
      rw [← hw8] at T8
      -- keep
      have hs8 : wq.heap.size ≤ w8.heap.size := by
        have h1 := kz8.lt
        omega
      obtain ⟨ga9, c9, w9, R9, O9, B9, N9⟩ := run_copyE w8.drew w.heap.size va vc d.ty (hN.later T8.2.2.2.2.2.2.2.2.1.drew) hvn (by omega) (show w.heap.size ≤ w8.heap.size from T8.2.2.2.2.2.2.2.2.1.size)
      have T9 := (T8.later ((Below.refl _ _).drew)).later B9
      have kz9 := kz8.drew.later B9
      obtain ⟨g10, c10, w10, R10, X10, Z10, S10, K10, T10⟩ := T9.swap.push d (.slice ga9 d.ty.length c9) O9 (fun i u j hu hj e => by
        obtain ⟨d', hd'⟩ := T8.2.1.d hu
        have h1 := own_lt (T8.2.1.2.2.1 i d' u hd' hu) hj
        have h2 := N9 _ e
        have h3 : w8.drew.heap.size = w8.heap.size := rfl
        omega) (by rw [hlk]; omega) rfl
      have kz10 : Blk w10 wq.heap.size 41 [.string d.name, .int .i64 d.a, .slice va d.ty.length vc] := by
        have h := K10 _ _ _ kz9 (fun e => by have := hno2 _ e; omega) (by have := t4.lt; omega)
        unfold Blk at h ⊢
        rw [← Below.heap_setCell w10 ⟨w.heap.size + 4, 0, none⟩ (.slice (some ⟨g10, 0, none⟩) ((D.take k).length + 1) c10) wq.heap.size (by have := t4.lt; show wq.heap.size ≠ w.heap.size + 4; omega)]
        exact h
      have T11 := T10.swap
      rw [← HTk.out] at T11
      rw [hlk] at R8 R10 T11 hw8
      subst hvi hvk
      have HT11 := hide_ T11
      have HR6 := hide_ R6
      have HR7 := hide_ R7
      have HR8 : Hid ((Builtin.append_ #[22, 22] 22 #[.slice da k dc, .slice (some ⟨w7.heap.size, 0, none⟩) 1 1]).run Tryd.prog (w7.alloc (.cells #[.string d.name, .int .i64 d.a, .slice (some ⟨g7, 0, none⟩) d.ty.length c7] 41)).drew = .ok (.slice (some ⟨g8, 0, none⟩) (k + 1) c8) w8') := hide_ R8
      have HR9 : Hid ((Builtin.append_ #[39, 39] 39 #[.slice (some ⟨w8.heap.size, 0, none⟩) 0 0, .slice va d.ty.length vc]).run Tryd.prog (w8.alloc (.cells #[] 38)).drew = .ok (.slice ga9 d.ty.length c9) w9) := hide_ R9
      have HR10 := hide_ R10
      have K4 := T7.2.2.1
      have K5 := T9.2.2.2.1
      have KB5 := T8.2.2.2.1
      have m0 := M7c 0 (by decide); have m1 := M7c 1 (by decide); have m2 := M7c 2 (by decide); have m3 := M7c 3 (by decide); have m4 := M7c 4 (by decide); have m5 := M7c 5 (by decide); have m6 := M7c 6 (by decide)
      simp [ndc, mkX] at m0 m1 m2 m3 m4 m5 m6
      have HKz := hide_ kz
      have HKz7 := hide_ kz7
      have HKz8 := hide_ kz8
      have HKz9 := hide_ kz9
      have HKz10 := hide_ kz10
      have HKz8p := hide_ kz8p
      have HNe4 : Hid (wq.heap.size ≠ w.heap.size + 1 + 1 + 1) := hide_ (by have := t3.lt; omega)
      have HNe5 : Hid (wq.heap.size ≠ w.heap.size + 1 + 1 + 1 + 1) := hide_ (by have := t4.lt; omega)
      have HK4 := hide_ K4
      have HK5 := hide_ K5
      have HKB5 := hide_ KB5
      have HX8 := hide_ X8
      have HZ8 := hide_ Z8
      have HX10 := hide_ X10
      have HZ10 := hide_ Z10
      have Hw8 := hide_ hw8
      have hL7 := L7
      clear R6 R7 R8 R9 R10 T7 T8 T9 T10 T11 K8 K10 O6 O7 O9 B6 N6 U7 C7 hu7 hg7 M7c N9 B9 kz kz7 kz8 kz8p kz9 kz10 K4 K5 KB5 X8 Z8 X10 Z10 hw8 hcs h1 hN hd g0 hno1 hno2 hBz hBwz t1 t2 t3 t4 t5 t7 t8 t10 S8 S10 hs8 hsz HT t9
      go_upto_region 6 with fail
      rw [← hwz]
      clear hwz p0 p1 p2
      have y2 := HKz.out.cell 2
      simp at y2
      have y2z : ∀ ob, (wz.alloc ob).cell? ⟨wq.heap.size, 2, none⟩ = some (.slice va d.ty.length vc) := fun ob => (cell_al wz ob _ _ HKz.out.lt).trans (HKz.out.cell 2)
      go_upto_region 8 with (first | (at_builtin; have _t := HR6; refine wpList_append_run rfl (.tmp 21) (.tmp 23) 39 39 rfl rfl rfl HR6.out ?_; clear HR6) | (at_builtin; have _t := HR7; refine wpList_append_run rfl (.tmp 25) (.tmp 27) 39 39 rfl rfl rfl HR7.out ?_; clear HR7))
      clear y2 y2z m0 m1 m2 m3 m4 m5 m6 x0
      have x4 : w7.cell? ⟨w.heap.size + 1 + 1 + 1, 0, none⟩ = some (.slice da k dc) := HK4.out.cell 0
      have x4a : ∀ ob, (w7.alloc ob).cell? ⟨w.heap.size + 1 + 1 + 1, 0, none⟩ = some (.slice da k dc) := fun ob => (cell_al w7 ob _ _ HK4.out.lt).trans (HK4.out.cell 0)
      have y0 := HKz7.out.cell 0; have y1 := HKz7.out.cell 1; have y2 := HKz7.out.cell 2
      simp at y0 y1 y2
      have x8 : w8'.cell? ⟨w.heap.size + 1 + 1 + 1, 0, none⟩ = some (.slice da k dc) := HX8.out
      have z8 : w8'.frozen? ⟨w.heap.size + 1 + 1 + 1, 0, none⟩ = false := HZ8.out
      have hle7 : 0 ≤ (d.ty.length : Int) ∧ (d.ty.length : Int) ≤ c7 := by omega
      have hw0 : IntKind.i64.wrap (d.ty.length : Int) = d.ty.length := by rw [IntKind.wrap_i64]; omega
      go_cut [42] from 29 to 43 (fun x42 wc => w8 = wc)
      case first =>
        have kz8' : Blk w8' wq.heap.size 41 [.string d.name, .int .i64 d.a, .slice va d.ty.length vc] := HKz8p.out
        have tri : ∀ (wx : World) (t : TypeId), Blk wx wq.heap.size t [.string d.name, .int .i64 d.a, .slice va d.ty.length vc] → wx.cell? ⟨wq.heap.size, 0, none⟩ = some (.string d.name) ∧ wx.cell? ⟨wq.heap.size, 1, none⟩ = some (.int .i64 d.a) ∧ wx.cell? ⟨wq.heap.size, 2, none⟩ = some (.slice va d.ty.length vc) := fun wx t h => ⟨h.cell 0, h.cell 1, h.cell 2⟩
        have HS0 := hide_ (tri w7.drew _ HKz7.out.drew)
        have HS1 := hide_ (tri (w7.alloc (.cells #[.string d.name, .int .i64 d.a, .slice (some ⟨g7, 0, none⟩) d.ty.length c7] 41)).drew _ (HKz7.out.alloc _).drew)
        have HS2 := hide_ (tri w8' _ kz8')
        have HS3 := hide_ (tri (w8'.setCell ⟨w.heap.size + 1 + 1 + 1, 0, none⟩ (.slice (some ⟨g8, 0, none⟩) (k + 1) c8)) _ (kz8'.other _ _ HNe4.out))
        clear tri kz8' y0 y1 y2
        go_wp2_with fail
        refine wp_region_held_drew (S := (fun w' => w'.cell? ⟨wq.heap.size, 0, none⟩ = some (.string d.name) ∧ w'.cell? ⟨wq.heap.size, 1, none⟩ = some (.int .i64 d.a) ∧ w'.cell? ⟨wq.heap.size, 2, none⟩ = some (.slice va d.ty.length vc))) (by kernel_rfl) HS0.out (fun hHeld => ?_)
        refine wpAnyH_take (i := 0) (v := ?v15) rfl (by kernel_rfl) (by kernel_rfl) (by kernel_rfl) (fun _ _ _ h => h) (Or.inl ⟨by rfl, ?hy15⟩) hHeld ?rest15
        case hy15 => intro w' hSw; (try dsimp only at hSw); go_simp; try with_reducible rfl
        simp only [Act.put]
        refine wpAnyH_take (i := 2) (v := ?v16) rfl (by kernel_rfl) (by kernel_rfl) (by kernel_rfl) (fun _ _ _ h => h) (Or.inl ⟨by rfl, ?hy16⟩) hHeld ?rest16
        case hy16 => intro w' hSw; (try dsimp only at hSw); go_simp; try with_reducible rfl
        simp only [Act.put]
        refine wpAnyH_take (i := 4) (v := ?v17) rfl (by kernel_rfl) (by kernel_rfl) (by kernel_rfl) (fun _ _ _ h => h) (Or.inl ⟨by rfl, ?hy17⟩) hHeld ?rest17
        case hy17 => intro w' hSw; (try dsimp only at hSw); go_simp; try with_reducible rfl
        simp only [Act.put]
        refine wpAnyH_take (i := 6) (v := ?v18) rfl (by kernel_rfl) (by kernel_rfl) (by kernel_rfl) (fun _ _ _ h => h) (Or.inl ⟨by rfl, ?hy18⟩) hHeld ?rest18
        case hy18 => intro w' hSw; (try dsimp only at hSw); go_simp; try with_reducible rfl
        simp only [Act.put]
        refine wpAnyH_take (i := 7) (v := ?v19) rfl (by kernel_rfl) (by kernel_rfl) (by kernel_rfl) (fun _ _ _ h => h) (Or.inl ⟨by rfl, ?hy19⟩) hHeld ?rest19
        case hy19 => intro w' hSw; (try dsimp only at hSw); go_simp; try with_reducible rfl
        simp only [Act.put]
        refine wpAnyH_take (i := 3) (v := ?v20) rfl (by kernel_rfl) (by kernel_rfl) (by kernel_rfl) (fun _ _ _ h => h) (Or.inl ⟨by rfl, ?hy20⟩) hHeld ?rest20
        case hy20 => intro w' hSw; (try dsimp only at hSw); go_simp; try with_reducible rfl
        simp only [Act.put]
        refine wpAnyH_take (i := 5) (v := ?v21) rfl (by kernel_rfl) (by kernel_rfl) (by kernel_rfl) (fun _ _ _ h => h) (Or.inl ⟨by rfl, ?hy21⟩) hHeld ?rest21
        case hy21 => intro w' hSw; (try dsimp only at hSw); go_simp; try with_reducible rfl
        simp only [Act.put]
        refine wpAnyH_take (i := 8) (v := ?v22) rfl (by kernel_rfl) (by kernel_rfl) (by kernel_rfl) (fun _ _ _ h => h) (Or.inl ⟨by rfl, ?hy22⟩) hHeld ?rest22
        case hy22 => intro w' hSw; (try dsimp only at hSw); go_simp; try with_reducible rfl
        simp only [Act.put]
        refine wpAnyH_take (i := 9) (v := ?v23) rfl (by kernel_rfl) (by kernel_rfl) (by kernel_rfl) (fun _ _ _ h => h) (Or.inl ⟨by rfl, ?hy23⟩) hHeld ?rest23
        case hy23 => intro w' hSw; (try dsimp only at hSw); go_simp; try with_reducible rfl
        simp only [Act.put]
        refine wpAnyH_take (i := 10) (v := ?v24) rfl (by kernel_rfl) (by kernel_rfl) (by kernel_rfl) (fun _ _ _ h => h) (Or.inl ⟨by rfl, ?hy24⟩) hHeld ?rest24
        case hy24 => intro w' hSw; (try dsimp only at hSw); go_simp; try with_reducible rfl
        simp only [Act.put]
        refine wpAnyH_take (i := 11) (v := ?v25) rfl (by kernel_rfl) (by kernel_rfl) (by kernel_rfl) (fun _ _ _ h => h) (Or.inl ⟨by rfl, ?hy25⟩) hHeld ?rest25
        case hy25 => intro w' hSw; (try dsimp only at hSw); go_simp; try with_reducible rfl
        simp only [Act.put]
        refine wpAnyH_ready (rs := [1, 12]) (by kernel_rfl) (by simp) ?_
        refine AllReadyH.cons rfl (fun K hK => ?_) ?_
        · go_simp
          refine hK.out _ _ (by first | exact HS1.out | exact HS2.out | exact HS3.out | exact HS0.out) (fun hHeld => ?_)
          clear hK K
          refine wpAnyH_ready (rs := [12]) (by kernel_rfl) (by simp) ?_
          refine AllReadyH.cons rfl (fun K hK => ?_) ?_
          · go_simp
            refine hK.out _ _ (by first | exact HS1.out | exact HS2.out | exact HS3.out | exact HS0.out) (fun hHeld => ?_)
            clear hK K
            refine wpAnyH_ready (rs := [13]) (by kernel_rfl) (by simp) ?_
            refine AllReadyH.cons rfl (fun K hK => ?_) ?_
            · refine step_append_run rfl (.tmp 30) (.tmp 41) 22 22 rfl rfl rfl HR8.out ?_
              refine hK.out _ _ (by first | exact HS1.out | exact HS2.out | exact HS3.out | exact HS0.out) (fun hHeld => ?_)
              clear hK K
              refine wpAnyH_take (i := 14) (v := ?v26) rfl (by kernel_rfl) (by kernel_rfl) (by kernel_rfl) (fun _ _ _ h => h) (Or.inl ⟨by rfl, ?hy26⟩) hHeld ?rest26
              case hy26 => intro w' hSw; (try dsimp only at hSw); go_simp; try with_reducible rfl
              simp only [Act.put]
              refine wpAnyH_ready (rs := [15]) (by kernel_rfl) (by simp) ?_
              refine AllReadyH.cons rfl (fun K hK => ?_) ?_
              · go_simp
                refine hK.out _ _ (by first | exact HS1.out | exact HS2.out | exact HS3.out | exact HS0.out) (fun hHeld => ?_)
                clear hK K
                refine wpAnyH_done (by kernel_rfl) ?_ _
                go_wp2
                go_meet
                case rel => exact Hw8.out
              exact AllReadyH.nil
            exact AllReadyH.nil
          exact AllReadyH.nil
        refine AllReadyH.cons rfl (fun K hK => ?_) ?_
        · go_simp
          refine hK.out _ _ (by first | exact HS1.out | exact HS2.out | exact HS3.out | exact HS0.out) (fun hHeld => ?_)
          clear hK K
          refine wpAnyH_ready (rs := [1]) (by kernel_rfl) (by simp) ?_
          refine AllReadyH.cons rfl (fun K hK => ?_) ?_
          · go_simp
            refine hK.out _ _ (by first | exact HS1.out | exact HS2.out | exact HS3.out | exact HS0.out) (fun hHeld => ?_)
            clear hK K
            refine wpAnyH_ready (rs := [13]) (by kernel_rfl) (by simp) ?_
            refine AllReadyH.cons rfl (fun K hK => ?_) ?_
            · refine step_append_run rfl (.tmp 30) (.tmp 41) 22 22 rfl rfl rfl HR8.out ?_
              refine hK.out _ _ (by first | exact HS1.out | exact HS2.out | exact HS3.out | exact HS0.out) (fun hHeld => ?_)
              clear hK K
              refine wpAnyH_take (i := 14) (v := ?v27) rfl (by kernel_rfl) (by kernel_rfl) (by kernel_rfl) (fun _ _ _ h => h) (Or.inl ⟨by rfl, ?hy27⟩) hHeld ?rest27
              case hy27 => intro w' hSw; (try dsimp only at hSw); go_simp; try with_reducible rfl
              simp only [Act.put]
              refine wpAnyH_ready (rs := [15]) (by kernel_rfl) (by simp) ?_
              refine AllReadyH.cons rfl (fun K hK => ?_) ?_
              · go_simp
                refine hK.out _ _ (by first | exact HS1.out | exact HS2.out | exact HS3.out | exact HS0.out) (fun hHeld => ?_)
                clear hK K
                refine wpAnyH_done (by kernel_rfl) ?_ _
                go_wp2
                go_meet
                case rel => exact Hw8.out
              exact AllReadyH.nil
            exact AllReadyH.nil
          exact AllReadyH.nil
        exact AllReadyH.nil
      case rest =>
      subst hcut
      clear x4 x4a y0 y1 y2 x8 z8
      have x5 : w8.cell? ⟨w.heap.size + 1 + 1 + 1 + 1, 0, none⟩ = some (.slice ea k ec) := HKB5.out.cell 0
      have x5a : ∀ ob, (w8.alloc ob).cell? ⟨w.heap.size + 1 + 1 + 1 + 1, 0, none⟩ = some (.slice ea k ec) := fun ob => (cell_al w8 ob _ _ HKB5.out.lt).trans (HKB5.out.cell 0)
      have x5b : w9.cell? ⟨w.heap.size + 1 + 1 + 1 + 1, 0, none⟩ = some (.slice ea k ec) := HK5.out.cell 0
      have x5c : ∀ ob, (w9.alloc ob).cell? ⟨w.heap.size + 1 + 1 + 1 + 1, 0, none⟩ = some (.slice ea k ec) := fun ob => (cell_al w9 ob _ _ HK5.out.lt).trans (HK5.out.cell 0)
      have y0 := HKz8.out.cell 0; have y1 := HKz8.out.cell 1; have y2 := HKz8.out.cell 2
      have y0a : ∀ ob, (w8.alloc ob).cell? ⟨wq.heap.size, 0, none⟩ = some (.string d.name) := fun ob => (cell_al w8 ob _ _ HKz8.out.lt).trans (HKz8.out.cell 0)
      have y1a : ∀ ob, (w8.alloc ob).cell? ⟨wq.heap.size, 1, none⟩ = some (.int .i64 d.a) := fun ob => (cell_al w8 ob _ _ HKz8.out.lt).trans (HKz8.out.cell 1)
      have y2a : ∀ ob, (w8.alloc ob).cell? ⟨wq.heap.size, 2, none⟩ = some (.slice va d.ty.length vc) := fun ob => (cell_al w8 ob _ _ HKz8.out.lt).trans (HKz8.out.cell 2)
      have q0 := HKz9.out.cell 0; have q1 := HKz9.out.cell 1
      simp at y0 y1 y2 q0 q1
      have x10 : w10.cell? ⟨w.heap.size + 1 + 1 + 1 + 1, 0, none⟩ = some (.slice ea k ec) := HX10.out
      have z10 : w10.frozen? ⟨w.heap.size + 1 + 1 + 1 + 1, 0, none⟩ = false := HZ10.out
      have HMs : Hid (k + 1 ≤ n) := hlt
      have kz10 : Blk w10 wq.heap.size 41 [.string d.name, .int .i64 d.a, .slice va d.ty.length vc] := HKz10.out
      have tri : ∀ (wx : World) (t : TypeId), Blk wx wq.heap.size t [.string d.name, .int .i64 d.a, .slice va d.ty.length vc] → wx.cell? ⟨wq.heap.size, 0, none⟩ = some (.string d.name) ∧ wx.cell? ⟨wq.heap.size, 1, none⟩ = some (.int .i64 d.a) ∧ wx.cell? ⟨wq.heap.size, 2, none⟩ = some (.slice va d.ty.length vc) := fun wx t h => ⟨h.cell 0, h.cell 1, h.cell 2⟩
      have HS0 := hide_ (tri w8.drew _ HKz8.out.drew)
      have HS1 := hide_ (tri (w8.alloc (.cells #[] 38)).drew _ (HKz8.out.alloc _).drew)
      have HS2 := hide_ (tri w9 _ HKz9.out)
      have HS3 := hide_ (tri (w9.alloc (.cells #[.string d.name, .int .i64 d.a, .slice ga9 d.ty.length c9] 41)) _ (HKz9.out.alloc _))
      have HS4 := hide_ (tri w10 _ kz10)
      have HS5 := hide_ (tri (w10.setCell ⟨w.heap.size + 1 + 1 + 1 + 1, 0, none⟩ (.slice (some ⟨g10, 0, none⟩) (k + 1) c10)) _ (kz10.other _ _ HNe5.out))
      clear tri kz10 y0 y1 y2 y0a y1a y2a q0 q1 hle7 hw0 hL7
      go_wp2_with fail
      refine wp_region_held_drew (S := (fun w' => w'.cell? ⟨wq.heap.size, 0, none⟩ = some (.string d.name) ∧ w'.cell? ⟨wq.heap.size, 1, none⟩ = some (.int .i64 d.a) ∧ w'.cell? ⟨wq.heap.size, 2, none⟩ = some (.slice va d.ty.length vc))) (by kernel_rfl) HS0.out (fun hHeld => ?_)
      refine wpAnyH_take (i := 0) (v := ?v1) rfl (by kernel_rfl) (by kernel_rfl) (by kernel_rfl) (fun _ _ _ h => h) (Or.inl ⟨by rfl, ?hy1⟩) hHeld ?rest1
      case hy1 => intro w' hSw; (try dsimp only at hSw); go_simp; try with_reducible rfl
      simp only [Act.put]
      refine wpAnyH_take (i := 2) (v := ?v2) rfl (by kernel_rfl) (by kernel_rfl) (by kernel_rfl) (fun _ _ _ h => h) (Or.inl ⟨by rfl, ?hy2⟩) hHeld ?rest2
      case hy2 => intro w' hSw; (try dsimp only at hSw); go_simp; try with_reducible rfl
      simp only [Act.put]
      refine wpAnyH_take (i := 4) (v := ?v3) rfl (by kernel_rfl) (by kernel_rfl) (by kernel_rfl) (fun _ _ _ h => h) (Or.inl ⟨by rfl, ?hy3⟩) hHeld ?rest3
      case hy3 => intro w' hSw; (try dsimp only at hSw); go_simp; try with_reducible rfl
      simp only [Act.put]
      refine wpAnyH_take (i := 7) (v := ?v4) rfl (by kernel_rfl) (by kernel_rfl) (by kernel_rfl) (fun _ _ _ h => h) (Or.inl ⟨by rfl, ?hy4⟩) hHeld ?rest4
      case hy4 => intro w' hSw; (try dsimp only at hSw); go_simp; try with_reducible rfl
      simp only [Act.put]
      refine wpAnyH_take (i := 3) (v := ?v5) rfl (by kernel_rfl) (by kernel_rfl) (by kernel_rfl) (fun _ _ _ h => h) (Or.inl ⟨by rfl, ?hy5⟩) hHeld ?rest5
      case hy5 => intro w' hSw; (try dsimp only at hSw); go_simp; try with_reducible rfl
      simp only [Act.put]
      refine wpAnyH_take (i := 5) (v := ?v6) rfl (by kernel_rfl) (by kernel_rfl) (by kernel_rfl) (fun _ _ _ h => h) (Or.inl ⟨by rfl, ?hy6⟩) hHeld ?rest6
      case hy6 => intro w' hSw; (try dsimp only at hSw); go_simp; try with_reducible rfl
      simp only [Act.put]
      refine wpAnyH_take (i := 8) (v := ?v7) rfl (by kernel_rfl) (by kernel_rfl) (by kernel_rfl) (fun _ _ _ h => h) (Or.inl ⟨by rfl, ?hy7⟩) hHeld ?rest7
      case hy7 => intro w' hSw; (try dsimp only at hSw); go_simp; try with_reducible rfl
      simp only [Act.put]
      refine wpAnyH_ready (rs := [1, 6]) (by kernel_rfl) (by simp) ?_
      refine AllReadyH.cons rfl (fun K hK => ?_) ?_
      · go_simp
        refine hK.out _ _ (by first | exact HS1.out | exact HS2.out | exact HS3.out | exact HS4.out | exact HS5.out | exact HS0.out) (fun hHeld => ?_)
        clear hK K
        refine wpAnyH_ready (rs := [6]) (by kernel_rfl) (by simp) ?_
        refine AllReadyH.cons rfl (fun K hK => ?_) ?_
        · go_simp
          refine hK.out _ _ (by first | exact HS1.out | exact HS2.out | exact HS3.out | exact HS4.out | exact HS5.out | exact HS0.out) (fun hHeld => ?_)
          clear hK K
          refine wpAnyH_ready (rs := [9]) (by kernel_rfl) (by simp) ?_
          refine AllReadyH.cons rfl (fun K hK => ?_) ?_
          · refine step_append_run rfl (.tmp 50) (.tmp 52) 39 39 rfl rfl rfl HR9.out ?_
            refine hK.out _ _ (by first | exact HS1.out | exact HS2.out | exact HS3.out | exact HS4.out | exact HS5.out | exact HS0.out) (fun hHeld => ?_)
            clear hK K
            refine wpAnyH_take (i := 10) (v := ?v8) rfl (by kernel_rfl) (by kernel_rfl) (by kernel_rfl) (fun _ _ _ h => h) (Or.inl ⟨by rfl, ?hy8⟩) hHeld ?rest8
            case hy8 => intro w' hSw; (try dsimp only at hSw); go_simp; try with_reducible rfl
            simp only [Act.put]
            refine wpAnyH_ready (rs := [11]) (by kernel_rfl) (by simp) ?_
            refine AllReadyH.cons rfl (fun K hK => ?_) ?_
            · go_simp
              refine hK.out _ _ (by first | exact HS1.out | exact HS2.out | exact HS3.out | exact HS4.out | exact HS5.out | exact HS0.out) (fun hHeld => ?_)
              clear hK K
              refine wpAnyH_ready (rs := [12]) (by kernel_rfl) (by simp) ?_
              refine AllReadyH.cons rfl (fun K hK => ?_) ?_
              · refine step_append_run rfl (.tmp 45) (.tmp 55) 22 22 rfl rfl rfl HR10.out ?_
                refine hK.out _ _ (by first | exact HS1.out | exact HS2.out | exact HS3.out | exact HS4.out | exact HS5.out | exact HS0.out) (fun hHeld => ?_)
                clear hK K
                refine wpAnyH_take (i := 13) (v := ?v9) rfl (by kernel_rfl) (by kernel_rfl) (by kernel_rfl) (fun _ _ _ h => h) (Or.inl ⟨by rfl, ?hy9⟩) hHeld ?rest9
                case hy9 => intro w' hSw; (try dsimp only at hSw); go_simp; try with_reducible rfl
                simp only [Act.put]
                refine wpAnyH_ready (rs := [14]) (by kernel_rfl) (by simp) ?_
                refine AllReadyH.cons rfl (fun K hK => ?_) ?_
                · go_simp
                  refine hK.out _ _ (by first | exact HS1.out | exact HS2.out | exact HS3.out | exact HS4.out | exact HS5.out | exact HS0.out) (fun hHeld => ?_)
                  clear hK K
                  refine wpAnyH_done (by kernel_rfl) ?_ _
                  clear x5 x5a x5b x5c x10 z10
                  have hk1 := HMs.out
                  go_wp2
                  go_roundw
                  case rel => exact ⟨k + 1, _, _, _, _, HMs.out, by go_num, HT11⟩
                  case measure => simp [intOf]; omega
                exact AllReadyH.nil
              exact AllReadyH.nil
            exact AllReadyH.nil
          exact AllReadyH.nil
        exact AllReadyH.nil
      refine AllReadyH.cons rfl (fun K hK => ?_) ?_
      · go_simp
        refine hK.out _ _ (by first | exact HS1.out | exact HS2.out | exact HS3.out | exact HS4.out | exact HS5.out | exact HS0.out) (fun hHeld => ?_)
        clear hK K
        refine wpAnyH_ready (rs := [1, 9]) (by kernel_rfl) (by simp) ?_
        refine AllReadyH.cons rfl (fun K hK => ?_) ?_
        · go_simp
          refine hK.out _ _ (by first | exact HS1.out | exact HS2.out | exact HS3.out | exact HS4.out | exact HS5.out | exact HS0.out) (fun hHeld => ?_)
          clear hK K
          refine wpAnyH_ready (rs := [9]) (by kernel_rfl) (by simp) ?_
          refine AllReadyH.cons rfl (fun K hK => ?_) ?_
          · refine step_append_run rfl (.tmp 50) (.tmp 52) 39 39 rfl rfl rfl HR9.out ?_
            refine hK.out _ _ (by first | exact HS1.out | exact HS2.out | exact HS3.out | exact HS4.out | exact HS5.out | exact HS0.out) (fun hHeld => ?_)
            clear hK K
            refine wpAnyH_take (i := 10) (v := ?v10) rfl (by kernel_rfl) (by kernel_rfl) (by kernel_rfl) (fun _ _ _ h => h) (Or.inl ⟨by rfl, ?hy10⟩) hHeld ?rest10
            case hy10 => intro w' hSw; (try dsimp only at hSw); go_simp; try with_reducible rfl
            simp only [Act.put]
            refine wpAnyH_ready (rs := [11]) (by kernel_rfl) (by simp) ?_
            refine AllReadyH.cons rfl (fun K hK => ?_) ?_
            · go_simp
              refine hK.out _ _ (by first | exact HS1.out | exact HS2.out | exact HS3.out | exact HS4.out | exact HS5.out | exact HS0.out) (fun hHeld => ?_)
              clear hK K
              refine wpAnyH_ready (rs := [12]) (by kernel_rfl) (by simp) ?_
              refine AllReadyH.cons rfl (fun K hK => ?_) ?_
              · refine step_append_run rfl (.tmp 45) (.tmp 55) 22 22 rfl rfl rfl HR10.out ?_
                refine hK.out _ _ (by first | exact HS1.out | exact HS2.out | exact HS3.out | exact HS4.out | exact HS5.out | exact HS0.out) (fun hHeld => ?_)
                clear hK K
                refine wpAnyH_take (i := 13) (v := ?v11) rfl (by kernel_rfl) (by kernel_rfl) (by kernel_rfl) (fun _ _ _ h => h) (Or.inl ⟨by rfl, ?hy11⟩) hHeld ?rest11
                case hy11 => intro w' hSw; (try dsimp only at hSw); go_simp; try with_reducible rfl
                simp only [Act.put]
                refine wpAnyH_ready (rs := [14]) (by kernel_rfl) (by simp) ?_
                refine AllReadyH.cons rfl (fun K hK => ?_) ?_
                · go_simp
                  refine hK.out _ _ (by first | exact HS1.out | exact HS2.out | exact HS3.out | exact HS4.out | exact HS5.out | exact HS0.out) (fun hHeld => ?_)
                  clear hK K
                  refine wpAnyH_done (by kernel_rfl) ?_ _
                  clear x5 x5a x5b x5c x10 z10
                  have hk1 := HMs.out
                  go_wp2
                  go_roundw
                  case rel => exact ⟨k + 1, _, _, _, _, HMs.out, by go_num, HT11⟩
                  case measure => simp [intOf]; omega
                exact AllReadyH.nil
              exact AllReadyH.nil
            exact AllReadyH.nil
          exact AllReadyH.nil
        refine AllReadyH.cons rfl (fun K hK => ?_) ?_
        · refine step_append_run rfl (.tmp 50) (.tmp 52) 39 39 rfl rfl rfl HR9.out ?_
          refine hK.out _ _ (by first | exact HS1.out | exact HS2.out | exact HS3.out | exact HS4.out | exact HS5.out | exact HS0.out) (fun hHeld => ?_)
          clear hK K
          refine wpAnyH_take (i := 10) (v := ?v12) rfl (by kernel_rfl) (by kernel_rfl) (by kernel_rfl) (fun _ _ _ h => h) (Or.inl ⟨by rfl, ?hy12⟩) hHeld ?rest12
          case hy12 => intro w' hSw; (try dsimp only at hSw); go_simp; try with_reducible rfl
          simp only [Act.put]
          refine wpAnyH_ready (rs := [1, 11]) (by kernel_rfl) (by simp) ?_
          refine AllReadyH.cons rfl (fun K hK => ?_) ?_
          · go_simp
            refine hK.out _ _ (by first | exact HS1.out | exact HS2.out | exact HS3.out | exact HS4.out | exact HS5.out | exact HS0.out) (fun hHeld => ?_)
            clear hK K
            refine wpAnyH_ready (rs := [11]) (by kernel_rfl) (by simp) ?_
            refine AllReadyH.cons rfl (fun K hK => ?_) ?_
            · go_simp
              refine hK.out _ _ (by first | exact HS1.out | exact HS2.out | exact HS3.out | exact HS4.out | exact HS5.out | exact HS0.out) (fun hHeld => ?_)
              clear hK K
              refine wpAnyH_ready (rs := [12]) (by kernel_rfl) (by simp) ?_
              refine AllReadyH.cons rfl (fun K hK => ?_) ?_
              · refine step_append_run rfl (.tmp 45) (.tmp 55) 22 22 rfl rfl rfl HR10.out ?_
                refine hK.out _ _ (by first | exact HS1.out | exact HS2.out | exact HS3.out | exact HS4.out | exact HS5.out | exact HS0.out) (fun hHeld => ?_)
                clear hK K
                refine wpAnyH_take (i := 13) (v := ?v13) rfl (by kernel_rfl) (by kernel_rfl) (by kernel_rfl) (fun _ _ _ h => h) (Or.inl ⟨by rfl, ?hy13⟩) hHeld ?rest13
                case hy13 => intro w' hSw; (try dsimp only at hSw); go_simp; try with_reducible rfl
                simp only [Act.put]
                refine wpAnyH_ready (rs := [14]) (by kernel_rfl) (by simp) ?_
                refine AllReadyH.cons rfl (fun K hK => ?_) ?_
                · go_simp
                  refine hK.out _ _ (by first | exact HS1.out | exact HS2.out | exact HS3.out | exact HS4.out | exact HS5.out | exact HS0.out) (fun hHeld => ?_)
                  clear hK K
                  refine wpAnyH_done (by kernel_rfl) ?_ _
                  clear x5 x5a x5b x5c x10 z10
                  have hk1 := HMs.out
                  go_wp2
                  go_roundw
                  case rel => exact ⟨k + 1, _, _, _, _, HMs.out, by go_num, HT11⟩
                  case measure => simp [intOf]; omega
                exact AllReadyH.nil
              exact AllReadyH.nil
            exact AllReadyH.nil
          refine AllReadyH.cons rfl (fun K hK => ?_) ?_
          · go_simp
            refine hK.out _ _ (by first | exact HS1.out | exact HS2.out | exact HS3.out | exact HS4.out | exact HS5.out | exact HS0.out) (fun hHeld => ?_)
            clear hK K
            refine wpAnyH_ready (rs := [1]) (by kernel_rfl) (by simp) ?_
            refine AllReadyH.cons rfl (fun K hK => ?_) ?_
            · go_simp
              refine hK.out _ _ (by first | exact HS1.out | exact HS2.out | exact HS3.out | exact HS4.out | exact HS5.out | exact HS0.out) (fun hHeld => ?_)
              clear hK K
              refine wpAnyH_ready (rs := [12]) (by kernel_rfl) (by simp) ?_
              refine AllReadyH.cons rfl (fun K hK => ?_) ?_
              · refine step_append_run rfl (.tmp 45) (.tmp 55) 22 22 rfl rfl rfl HR10.out ?_
                refine hK.out _ _ (by first | exact HS1.out | exact HS2.out | exact HS3.out | exact HS4.out | exact HS5.out | exact HS0.out) (fun hHeld => ?_)
                clear hK K
                refine wpAnyH_take (i := 13) (v := ?v14) rfl (by kernel_rfl) (by kernel_rfl) (by kernel_rfl) (fun _ _ _ h => h) (Or.inl ⟨by rfl, ?hy14⟩) hHeld ?rest14
                case hy14 => intro w' hSw; (try dsimp only at hSw); go_simp; try with_reducible rfl
                simp only [Act.put]
                refine wpAnyH_ready (rs := [14]) (by kernel_rfl) (by simp) ?_
                refine AllReadyH.cons rfl (fun K hK => ?_) ?_
                · go_simp
                  refine hK.out _ _ (by first | exact HS1.out | exact HS2.out | exact HS3.out | exact HS4.out | exact HS5.out | exact HS0.out) (fun hHeld => ?_)
                  clear hK K
                  refine wpAnyH_done (by kernel_rfl) ?_ _
                  clear x5 x5a x5b x5c x10 z10
                  have hk1 := HMs.out
                  go_wp2
                  go_roundw
                  case rel => exact ⟨k + 1, _, _, _, _, HMs.out, by go_num, HT11⟩
                  case measure => simp [intOf]; omega
                exact AllReadyH.nil
              exact AllReadyH.nil
            exact AllReadyH.nil
          exact AllReadyH.nil
        exact AllReadyH.nil
      exact AllReadyH.nil
    · obtain rfl : k = n := by omega
      have hDk : D.take k = D := by rw [← Hn.out, List.take_length]
      rw [hDk] at t1 t2
      obtain ⟨da, dc, hvi⟩ := own_slice t1.2.1
      obtain ⟨ea, ec, hvk⟩ := own_slice t2.2.1
      subst hvi hvk
      have x4 : wq.cell? ⟨w.heap.size + 1 + 1 + 1, 0, none⟩ = some (.slice da D.length dc) := t3.cell 0
      have x5 : wq.cell? ⟨w.heap.size + 1 + 1 + 1 + 1, 0, none⟩ = some (.slice ea D.length ec) := t4.cell 0
      have x2 : wq.cell? ⟨w.heap.size + 1, 0, none⟩ = some (.slice none 0 0) := t7.cell 0
      have x3 : wq.cell? ⟨w.heap.size + 1 + 1, 0, none⟩ = some (.slice none 0 0) := t8.cell 0
      have z2 : wq.frozen? ⟨w.heap.size + 1, 0, none⟩ = false := t7.frozen 0
      have z3 : wq.frozen? ⟨w.heap.size + 1 + 1, 0, none⟩ = false := t8.frozen 0
      have HT1 := hide_ t1
      have HT2 := hide_ t2
      have HT7 := hide_ t7
      have HT8 := hide_ t8
      have HT9 := hide_ t9
      have HT10 := hide_ t10
      clear t1 t2 t3 t4 t5 t6 t7 t8 t9 t10 HT hDk
      obtain ⟨wF, hwF⟩ : ∃ wF, wF = ((wq.setCell ⟨w.heap.size + 1, 0, none⟩ (.slice da D.length dc)).setCell ⟨w.heap.size + 1 + 1, 0, none⟩ (.slice ea D.length ec)).drew := ⟨_, rfl⟩
      have hF : Blk wF (w.heap.size + 1) 24 [.slice da D.length dc] ∧ Blk wF (w.heap.size + 1 + 1) 24 [.slice ea D.length ec] ∧ Src wF w.heap.size (.slice da D.length dc) D vsi ∧ Src wF w.heap.size (.slice ea D.length ec) D vsk ∧ Below w.heap.size w wF := by
        rw [hwF]
        have hU1 : Upd (fun j => j = w.heap.size + 1) wq (wq.setCell ⟨w.heap.size + 1, 0, none⟩ (.slice da D.length dc)) := (Upd.refl _ wq).set _ _ (.inl rfl)
        have k8 : Blk (wq.setCell ⟨w.heap.size + 1, 0, none⟩ (.slice da D.length dc)) (w.heap.size + 1 + 1) 24 [.slice none 0 0] := HT8.out.other _ _ (by show w.heap.size + 2 ≠ w.heap.size + 1; omega)
        have k7 : Blk (wq.setCell ⟨w.heap.size + 1, 0, none⟩ (.slice da D.length dc)) (w.heap.size + 1) 24 [.slice da D.length dc] := by have := HT7.out.set 0 (.slice da D.length dc); simpa using this
        have hU2 : Upd (fun j => j = w.heap.size + 1 + 1) (wq.setCell ⟨w.heap.size + 1, 0, none⟩ (.slice da D.length dc)) ((wq.setCell ⟨w.heap.size + 1, 0, none⟩ (.slice da D.length dc)).setCell ⟨w.heap.size + 1 + 1, 0, none⟩ (.slice ea D.length ec)) := (Upd.refl _ _).set _ _ (.inl rfl)
        refine ⟨(k7.other _ _ (by show w.heap.size + 1 ≠ w.heap.size + 1 + 1; omega)).drew, ?_, ?_, ?_, ?_⟩
        · refine Blk.drew ?_
          have := k8.set 0 (.slice ea D.length ec)
          simpa using this
        · exact ((HT1.out.other hU1 HT7.out (by decide) (by decide)).other hU2 k8 (by decide) (by decide)).later ((Below.refl _ _).drew)
        · exact ((HT2.out.other hU1 HT7.out (by decide) (by decide)).other hU2 k8 (by decide) (by decide)).later ((Below.refl _ _).drew)
        · exact (below_set (below_set HT9.out _ 0 _ (by omega)) _ 0 _ (by omega)).drew
      have HF := hide_ hF
      clear hF HT1 HT2 HT7 HT8 HT9
      go_wp2_with fail
      go_region
      rw [← hwF]
      clear hwF x2 x3 x4 x5 z2 z3
      go_wp2
      exact bodyPost_ret (res2cells (show Tryd.f6.results = #[.cell 2 24, .cell 3 24] by rfl) _ _ (w.heap.size + 1) (w.heap.size + 1 + 1) 24 24 #[.slice da D.length dc] #[.slice ea D.length ec] (0, 0) (0, 0) _ rfl HF.out.1 rfl HF.out.2.1 Tryd.underlying24 rfl (by show _ = some 1; kernel_rfl) (by show _ = some 1; kernel_rfl)) rfl ⟨_, _, _, _, rfl, hide_ HF.out.2.2.1, hide_ HF.out.2.2.2.1, hide_ HF.out.2.2.2.2, HT10⟩
end Go.Proofs.YtafljgjkcnbhbaaDoor

/- copied, with the marks behind the lists of what is handed in. -/
namespace Go.Proofs.YtafljgjkcnbhbaaDoor
open Go.RowKit
set_option linter.unusedVariables false

/-- Behind each list lies the mark. -/
def MkX (w : World) (D : List Df) (vs : List Value) : Prop := ∀ (i : Nat) (d : Df) (v : Value), D[i]? = some d → vs[i]? = some v → ∃ g c ys, v = .slice (some ⟨g, 0, none⟩) d.ty.length c ∧ d.ty.length + 1 ≤ c ∧ Blk w g 38 ys ∧ ∀ j, j < 7 → ys[d.ty.length * 7 + j]? = (ndc mkX)[j]?
theorem MkX.keep {w w' : World} {D : List Df} {vs : List Value} (h : MkX w D vs) (hk : ∀ b ys, Blk w b 38 ys → Blk w' b 38 ys) : MkX w' D vs := fun i d v hd hv => by
  obtain ⟨g, c, ys, h1, h2, h3, h4⟩ := h i d v hd hv
  exact ⟨g, c, ys, h1, h2, hk g ys h3, h4⟩
theorem MkX.push {w : World} {D : List Df} {vs : List Value} (h : MkX w D vs) (hl : vs.length = D.length) {d : Df} {g c : Nat} {ys : List Value} (h2 : d.ty.length + 1 ≤ c) (h3 : Blk w g 38 ys) (h4 : ∀ j, j < 7 → ys[d.ty.length * 7 + j]? = (ndc mkX)[j]?) : MkX w (D ++ [d]) (vs ++ [.slice (some ⟨g, 0, none⟩) d.ty.length c]) := fun i d' v hd hv => by
  rcases Nat.lt_or_ge i D.length with hi | hi
  · rw [List.getElem?_append_left hi] at hd
    rw [List.getElem?_append_left (by omega)] at hv
    exact h i d' v hd hv
  · rw [List.getElem?_append_right hi] at hd
    rw [List.getElem?_append_right (by omega)] at hv
    obtain ⟨h5, h6⟩ := List.getElem?_eq_some_iff.1 hd
    have h7 : i - D.length = 0 := by simp at h5; omega
    rw [hl, h7] at hv
    rw [h7] at hd
    simp at hd hv
    subst hd hv
    exact ⟨g, c, ys, rfl, h2, h3, h4⟩
theorem markX_push2 {w : World} {B : Nat} {v : Value} {N : List Nd} (h : w.ownsRow B 38 7 v N.length (cellsN N)) (hl : N.length ≤ 1954687338267) (hB : B ≤ w.heap.size) :
    ∃ g cap w' ys, (Builtin.append_ #[39, 39] 39 #[v, .slice (some ⟨w.heap.size, 0, none⟩) 1 1]).run Tryd.prog (w.alloc (.cells #[.int .i64 99, .int .i64 7, .string ⟨#[109, 97, 114, 107]⟩, .string ⟨#[]⟩, .int .i64 0, .int .i64 0, .int .i64 0] 38)) = .ok (.slice (some ⟨g, 0, none⟩) (N.length + 1) cap) w' ∧
      w'.ownsRow B 38 7 (.slice (some ⟨g, 0, none⟩) N.length cap) N.length (cellsN N) ∧ Upd (fun k => v.ownBlock = some k) w w' ∧ (v.ownBlock = some g ∨ w.heap.size ≤ g) ∧ N.length + 1 ≤ cap ∧ cap ≤ 9223372036854775807 ∧ Blk w' g 38 ys ∧ ∀ j, j < 7 → ys[N.length * 7 + j]? = (ndc mkX)[j]? := by
  obtain ⟨g, cap, w', r1, o1, u1, c1⟩ := run_pushS (P := Tryd.prog) (t := 39) (e := 38) (c := 7) (z := .agg #[.int .i64 0, .int .i64 0, .string ⟨#[]⟩, .string ⟨#[]⟩, .int .i64 0, .int .i64 0, .int .i64 0]) (bytes := 72) Tryd.underlying39 (by kernel_rfl) rfl (by decide) w 39 h (ndc mkX) rfl (by intro u hu; simp [ndc, mkX] at hu; rcases hu with rfl | rfl | rfl | rfl | rfl <;> rfl) (by unfold maxLen; omega) (by omega) hB
  obtain ⟨g', cap', ys, hv, _, hn, hm, _, hyt, hyk⟩ := ownS_blk o1 (by omega)
  injection hv with h1 h2 h3
  injection h1 with h1
  injection h1 with h1
  subst h1 h3
  have e : (cellsN N ++ ndc mkX).take (N.length * 7) = cellsN N := by rw [← cellsN_len]; exact List.take_left
  refine ⟨g, cap, w', ys, r1, ?_, u1, c1, hn, by unfold maxLen at hm; exact hm, hyk, fun j hj => ?_⟩
  · have h4 := own_cut o1 (m := N.length) (by omega)
    rw [e] at h4
    exact h4
  · have h5 := congrArg (fun l => l[N.length * 7 + j]?) hyt
    simp only [List.getElem?_take] at h5
    rw [if_pos (by omega), List.getElem?_append_right (by rw [cellsN_len]; omega), cellsN_len] at h5
    rw [h5, Nat.add_sub_cancel_left]
def CopTo2 (w : World) (D : List Df) (e : Ending) (w' : World) : Prop := ∃ vdi vsi vdk vsk, e = .returned (.tuple #[.agg #[vdi], .agg #[vdk]]) ∧ Hid (Src w' w.heap.size vdi D vsi) ∧ Hid (Src w' w.heap.size vdk D vsk) ∧ Hid (Below w.heap.size w w') ∧ Hid (∀ g, vdi.ownBlock = some g → vdk.ownBlock ≠ some g) ∧ Hid (MkX w' D vsi)
set_option maxRecDepth 100000 in
set_option maxHeartbeats 8000000 in
theorem copied2_any (a : Option Addr) (c n : Nat) (D : List Df) (w : World) (hn : D.length = n) (hS : Hid (Wt D)) (hR : Hid (DRow w a D)) (hM : Hid (MkW w)) :
    Calls Tryd.prog 6 #[.agg #[.slice a n c]] w fun e w' => CopTo2 w D e w' := by
  have hn63 : n ≤ 2932031007401 := by rw [← hn]; exact hS.out.1
  have Hn := hide_ hn
  clear hn
  obtain ⟨wa, hwa⟩ : ∃ wa, wa = ((((w.alloc (.cells #[.slice a n c] 24)).alloc (.cells #[.slice none 0 0] 24)).alloc (.cells #[.slice none 0 0] 24)).alloc (.cells #[.slice none 0 0] 24)).alloc (.cells #[.slice none 0 0] 24) := ⟨_, rfl⟩
  have hT0 : CpT w wa (.slice a n c) (w.heap.size + 3) (w.heap.size + 4) [] (.slice none 0 0) [] [] (.slice none 0 0) [] := by
    have k1 := Blk.newA w #[.slice a n c] 24
    have k2 := Blk.newA (w.alloc (.cells #[.slice a n c] 24)) #[.slice none 0 0] 24
    have k3 := Blk.newA ((w.alloc (.cells #[.slice a n c] 24)).alloc (.cells #[.slice none 0 0] 24)) #[.slice none 0 0] 24
    have k4 := Blk.newA (((w.alloc (.cells #[.slice a n c] 24)).alloc (.cells #[.slice none 0 0] 24)).alloc (.cells #[.slice none 0 0] 24)) #[.slice none 0 0] 24
    have k5 := Blk.newA ((((w.alloc (.cells #[.slice a n c] 24)).alloc (.cells #[.slice none 0 0] 24)).alloc (.cells #[.slice none 0 0] 24)).alloc (.cells #[.slice none 0 0] 24)) #[.slice none 0 0] 24
    rw [hwa]
    refine ⟨Src.nil _ _, Src.nil _ _, by have := k4.alloc (.cells #[.slice none 0 0] 24); simpa using this, by simpa using k5, ⟨by omega, by omega, by omega⟩, (((k1.alloc _).alloc _).alloc _).alloc _, by have := ((k2.alloc (.cells #[.slice none 0 0] 24)).alloc (.cells #[.slice none 0 0] 24)).alloc (.cells #[.slice none 0 0] 24); simpa using this, by have := (k3.alloc (.cells #[.slice none 0 0] 24)).alloc (.cells #[.slice none 0 0] 24); simpa using this, ((((((Below.refl w.heap.size w).alloc (Nat.le_refl _) _).alloc (by simp) _).alloc (by simp; omega) _).alloc (by simp; omega) _).alloc (by simp; omega) _), fun g hg => by cases hg⟩
  have HT0 := hide_ hT0
  clear hT0
  have hbd := bldD
  go_enter Tryd.func6, Tryd.ntmps6
  go_upto_region 2 with fail
  rw [← hwa]
  clear hwa
  go_wp2_with fail
  go_loopw [6] (fun x6 wr => ∃ (k : Nat) (vdi vdk : Value) (vsi vsk : List Value), k ≤ n ∧ x6 = .int .i64 (k : Int) ∧ Hid (CpT w wr (.slice a n c) (w.heap.size + 3) (w.heap.size + 4) (D.take k) vdi vsi (D.take k) vdk vsk) ∧ Hid (MkX wr (D.take k) vsi)) (fun x6 _ => n - (intOf x6).toNat)
  case atStart => exact ⟨0, _, _, _, _, Nat.zero_le _, rfl, by rw [List.take_zero]; exact HT0, hide_ (fun i d v hd _ => by rw [List.take_zero] at hd; simp at hd)⟩
  case round =>
    clear HT0
    obtain ⟨k, vdi, vdk, vsi, vsk, hk, rfl, HT, HMX⟩ := hrel
    generalize wr = wq at *
    obtain ⟨t1, t2, t3, t4, t5, t6, t7, t8, t9, t10⟩ := HT.out
    have x0 := t6.cell 0
    simp at x0
    by_cases hlt : k < n
    · have hlt' : (k : Int) < n := by omega
      have hkD : k < D.length := by rw [Hn.out]; exact hlt
      obtain ⟨b, o, rfl, hb, hcs⟩ := hR.out.open (by omega)
      have hd : D[k]? = some (D[k]'hkD) := List.getElem?_eq_getElem hkD
      obtain ⟨va, vc, h1, hv1, hvn, hN⟩ := hcs k _ hd
      have hty : (D[k]'hkD).ty.length ≤ 1954687338267 := hS.out.2 _ (List.getElem_mem hkD)
      have HTk : Hid (D.take (k + 1) = D.take k ++ [D[k]'hkD]) := by show _ = _; rw [List.take_add_one, hd]; rfl
      generalize D[k]'hkD = d at *
      have g0 := fun j hj => (t9.cell (p := ⟨b, o + k * 3 + j, none⟩) hb).trans (h1 j hj)
      have p0 : wq.cell? ⟨b, o + k * 3, none⟩ = some (.string d.name) := g0 0 (by decide)
      have p1 : wq.cell? ⟨b, o + k * 3 + 1, none⟩ = some (.int .i64 d.a) := g0 1 (by decide)
      have p2 : wq.cell? ⟨b, o + k * 3 + 2, none⟩ = some (.slice va d.ty.length vc) := g0 2 (by decide)
      have hlk : (D.take k).length = k := by rw [List.length_take]; omega
      -- the box of the definition
      obtain ⟨wz, hwz⟩ : ∃ wz, wz = wq.alloc (.cells #[.string d.name, .int .i64 d.a, .slice va d.ty.length vc] 41) := ⟨_, rfl⟩
      have kz : Blk wz wq.heap.size 41 [.string d.name, .int .i64 d.a, .slice va d.ty.length vc] := by rw [hwz]; exact Blk.newA wq #[.string d.name, .int .i64 d.a, .slice va d.ty.length vc] 41
      have hBz : Below wq.heap.size wq wz := by rw [hwz]; exact (Below.refl _ _).alloc (Nat.le_refl _) _
      have hsz : wz.heap.size = wq.heap.size + 1 := by rw [hwz]; simp
      have hBwz := t9.trans (hBz.mono t9.size)
      obtain ⟨ga6, c6, w6, R6, O6, B6, N6⟩ := run_copyE wz w.heap.size va vc d.ty (hN.later hBwz) hvn (by omega) hBwz.size
      obtain ⟨g7, c7, w7, ys7, R7, O7, U7, C7, L7, M7, Y7, J7⟩ := markX_push2 O6 hty (Nat.le_trans hBwz.size B6.size)
      have hu7 : Below wz.heap.size wz w7 := B6.trans (U7.below _ B6.size (fun j hj => N6 j hj))
      have hg7 : wz.heap.size ≤ g7 := by
        rcases C7 with h | h
        · exact N6 _ h
        · exact Nat.le_trans B6.size h
      have T7 := HT.out.later (below_to hBz hu7)
      have kz7 := kz.later hu7
      have M7c := fun j hj => ((hBwz.trans (B6.mono hBwz.size)).cell (p := ⟨0, j, none⟩) hM.out.1).trans (hM.out.2 j hj)
      obtain ⟨da, dc, hvi⟩ := own_slice t1.2.1
      obtain ⟨ea, ec, hvk⟩ := own_slice t2.2.1
      rw [hlk] at hvi hvk
      have hno1 : ∀ k', vdi.ownBlock = some k' → k' < wq.heap.size := fun k' h => own_lt t1.2.1 h
      have hno2 : ∀ k', vdk.ownBlock = some k' → k' < wq.heap.size := fun k' h => own_lt t2.2.1 h
      -- in
      obtain ⟨g8, c8, w8', R8, X8, Z8, S8, K8, T8⟩ := (T7.later ((Below.refl _ _).drew)).push d (.slice (some ⟨g7, 0, none⟩) d.ty.length c7) (ownS_upd O7 (Upd.of_below (S := fun _ => False) ((Below.refl _ _).drew)) (fun _ _ h => h)) (fun i u j hu hj e => by
        obtain ⟨d', hd'⟩ := t1.d hu
        have h1 := own_lt (t1.2.2.1 i d' u hd' hu) hj
        have h2 := own_is e
        omega) (by rw [hlk]; omega) rfl
      obtain ⟨w8, hw8⟩ : ∃ w8, w8 = w8'.setCell ⟨w.heap.size + 3, 0, none⟩ (.slice (some ⟨g8, 0, none⟩) ((D.take k).length + 1) c8) := ⟨_, rfl⟩
      have kz8 : Blk w8 wq.heap.size 41 [.string d.name, .int .i64 d.a, .slice va d.ty.length vc] := by
        rw [hw8]
        exact K8 _ _ _ kz7.drew (fun e => by have := hno1 _ e; omega) (by have := t3.lt; omega)
      have kz8p : Blk w8' wq.heap.size 41 [.string d.name, .int .i64 d.a, .slice va d.ty.length vc] := by
        have h := kz8
        rw [hw8] at h
        unfold Blk at h ⊢
        rw [← Below.heap_setCell w8' ⟨w.heap.size + 3, 0, none⟩ (.slice (some ⟨g8, 0, none⟩) ((D.take k).length + 1) c8) wq.heap.size (by have := t3.lt; show wq.heap.size ≠ w.heap.size + 3; omega)]
        exact h
      have hty1 : ∀ b ys, Blk wq b 38 ys → ¬ vdi.ownBlock = some b := fun b ys hb e => by
        obtain ⟨zs, hz⟩ := ownS_type t1.2.1 e
        exact absurd (blk_type hb hz) (by decide)
      have hty2 : ∀ b ys, Blk wq b 38 ys → ¬ vdk.ownBlock = some b := fun b ys hb e => by
        obtain ⟨zs, hz⟩ := ownS_type t2.2.1 e
        exact absurd (blk_type hb hz) (by decide)
      have kp8 : ∀ b ys, Blk wq b 38 ys → Blk w8 b 38 ys := fun b ys hb => by
        rw [hw8]
        exact K8 _ _ _ (hb.later (below_to hBz hu7)).drew (hty1 b ys hb) (fun e => by subst e; exact absurd (blk_type hb t3) (by decide))
      have ky8 : Blk w8 g7 38 ys7 := by
        rw [hw8]
        exact K8 _ _ _ Y7.drew (fun e => by have := hno1 _ e; omega) (by have := t3.lt; omega)
      rw [← hw8] at T8
      -- keep
      have hs8 : wq.heap.size ≤ w8.heap.size := by
        have h1 := kz8.lt
        omega
      obtain ⟨ga9, c9, w9, R9, O9, B9, N9⟩ := run_copyE w8.drew w.heap.size va vc d.ty (hN.later T8.2.2.2.2.2.2.2.2.1.drew) hvn (by omega) (show w.heap.size ≤ w8.heap.size from T8.2.2.2.2.2.2.2.2.1.size)
      have T9 := (T8.later ((Below.refl _ _).drew)).later B9
      have kz9 := kz8.drew.later B9
      obtain ⟨g10, c10, w10, R10, X10, Z10, S10, K10, T10⟩ := T9.swap.push d (.slice ga9 d.ty.length c9) O9 (fun i u j hu hj e => by
        obtain ⟨d', hd'⟩ := T8.2.1.d hu
        have h1 := own_lt (T8.2.1.2.2.1 i d' u hd' hu) hj
        have h2 := N9 _ e
        have h3 : w8.drew.heap.size = w8.heap.size := rfl
        omega) (by rw [hlk]; omega) rfl
      have kz10 : Blk w10 wq.heap.size 41 [.string d.name, .int .i64 d.a, .slice va d.ty.length vc] := by
        have h := K10 _ _ _ kz9 (fun e => by have := hno2 _ e; omega) (by have := t4.lt; omega)
        unfold Blk at h ⊢
        rw [← Below.heap_setCell w10 ⟨w.heap.size + 4, 0, none⟩ (.slice (some ⟨g10, 0, none⟩) ((D.take k).length + 1) c10) wq.heap.size (by have := t4.lt; show wq.heap.size ≠ w.heap.size + 4; omega)]
        exact h
      have kp9 : ∀ b ys, Blk w8 b 38 ys → Blk (w10.setCell ⟨w.heap.size + 4, 0, none⟩ (.slice (some ⟨g10, 0, none⟩) ((D.take k).length + 1) c10)) b 38 ys := fun b ys hb => K10 _ _ _ (hb.drew.later B9) (fun e => by
        obtain ⟨zs, hz⟩ := ownS_type T8.2.1.2.1 e
        exact absurd (blk_type hb hz) (by decide)) (fun e => by subst e; exact absurd (blk_type hb T8.2.2.2.1) (by decide))
      have hmx := ((HMX.out.keep kp8).push (show vsi.length = (D.take k).length from t1.1) L7 ky8 J7).keep kp9
      rw [← HTk.out, hlk] at hmx
      have HMX11 := hide_ hmx
      clear hmx kp8 kp9 ky8 hty1 hty2 Y7 J7 HMX
      have T11 := T10.swap
      rw [← HTk.out] at T11
      rw [hlk] at R8 R10 T11 hw8
      subst hvi hvk
      have HT11 := hide_ T11
      have HR6 := hide_ R6
      have HR7 := hide_ R7
      have HR8 : Hid ((Builtin.append_ #[22, 22] 22 #[.slice da k dc, .slice (some ⟨w7.heap.size, 0, none⟩) 1 1]).run Tryd.prog (w7.alloc (.cells #[.string d.name, .int .i64 d.a, .slice (some ⟨g7, 0, none⟩) d.ty.length c7] 41)).drew = .ok (.slice (some ⟨g8, 0, none⟩) (k + 1) c8) w8') := hide_ R8
      have HR9 : Hid ((Builtin.append_ #[39, 39] 39 #[.slice (some ⟨w8.heap.size, 0, none⟩) 0 0, .slice va d.ty.length vc]).run Tryd.prog (w8.alloc (.cells #[] 38)).drew = .ok (.slice ga9 d.ty.length c9) w9) := hide_ R9
      have HR10 := hide_ R10
      have K4 := T7.2.2.1
      have K5 := T9.2.2.2.1
      have KB5 := T8.2.2.2.1
      have m0 := M7c 0 (by decide); have m1 := M7c 1 (by decide); have m2 := M7c 2 (by decide); have m3 := M7c 3 (by decide); have m4 := M7c 4 (by decide); have m5 := M7c 5 (by decide); have m6 := M7c 6 (by decide)
      simp [ndc, mkX] at m0 m1 m2 m3 m4 m5 m6
      have HKz := hide_ kz
      have HKz7 := hide_ kz7
      have HKz8 := hide_ kz8
      have HKz9 := hide_ kz9
      have HKz10 := hide_ kz10
      have HKz8p := hide_ kz8p
      have HNe4 : Hid (wq.heap.size ≠ w.heap.size + 1 + 1 + 1) := hide_ (by have := t3.lt; omega)
      have HNe5 : Hid (wq.heap.size ≠ w.heap.size + 1 + 1 + 1 + 1) := hide_ (by have := t4.lt; omega)
      have HK4 := hide_ K4
      have HK5 := hide_ K5
      have HKB5 := hide_ KB5
      have HX8 := hide_ X8
      have HZ8 := hide_ Z8
      have HX10 := hide_ X10
      have HZ10 := hide_ Z10
      have Hw8 := hide_ hw8
      have hL7 := L7
      clear R6 R7 R8 R9 R10 T7 T8 T9 T10 T11 K8 K10 O6 O7 O9 B6 N6 U7 C7 hu7 hg7 M7c N9 B9 kz kz7 kz8 kz8p kz9 kz10 K4 K5 KB5 X8 Z8 X10 Z10 hw8 hcs h1 hN hd g0 hno1 hno2 hBz hBwz t1 t2 t3 t4 t5 t7 t8 t10 S8 S10 hs8 hsz HT t9
      go_upto_region 6 with fail
      rw [← hwz]
      clear hwz p0 p1 p2
      have y2 := HKz.out.cell 2
      simp at y2
      have y2z : ∀ ob, (wz.alloc ob).cell? ⟨wq.heap.size, 2, none⟩ = some (.slice va d.ty.length vc) := fun ob => (cell_al wz ob _ _ HKz.out.lt).trans (HKz.out.cell 2)
      go_upto_region 8 with (first | (at_builtin; have _t := HR6; refine wpList_append_run rfl (.tmp 21) (.tmp 23) 39 39 rfl rfl rfl HR6.out ?_; clear HR6) | (at_builtin; have _t := HR7; refine wpList_append_run rfl (.tmp 25) (.tmp 27) 39 39 rfl rfl rfl HR7.out ?_; clear HR7))
      clear y2 y2z m0 m1 m2 m3 m4 m5 m6 x0
      have x4 : w7.cell? ⟨w.heap.size + 1 + 1 + 1, 0, none⟩ = some (.slice da k dc) := HK4.out.cell 0
      have x4a : ∀ ob, (w7.alloc ob).cell? ⟨w.heap.size + 1 + 1 + 1, 0, none⟩ = some (.slice da k dc) := fun ob => (cell_al w7 ob _ _ HK4.out.lt).trans (HK4.out.cell 0)
      have y0 := HKz7.out.cell 0; have y1 := HKz7.out.cell 1; have y2 := HKz7.out.cell 2
      simp at y0 y1 y2
      have x8 : w8'.cell? ⟨w.heap.size + 1 + 1 + 1, 0, none⟩ = some (.slice da k dc) := HX8.out
      have z8 : w8'.frozen? ⟨w.heap.size + 1 + 1 + 1, 0, none⟩ = false := HZ8.out
      have hle7 : 0 ≤ (d.ty.length : Int) ∧ (d.ty.length : Int) ≤ c7 := by omega
      have hw0 : IntKind.i64.wrap (d.ty.length : Int) = d.ty.length := by rw [IntKind.wrap_i64]; omega
      go_cut [42] from 29 to 43 (fun x42 wc => w8 = wc)
      case first =>
        have kz8' : Blk w8' wq.heap.size 41 [.string d.name, .int .i64 d.a, .slice va d.ty.length vc] := HKz8p.out
        have tri : ∀ (wx : World) (t : TypeId), Blk wx wq.heap.size t [.string d.name, .int .i64 d.a, .slice va d.ty.length vc] → wx.cell? ⟨wq.heap.size, 0, none⟩ = some (.string d.name) ∧ wx.cell? ⟨wq.heap.size, 1, none⟩ = some (.int .i64 d.a) ∧ wx.cell? ⟨wq.heap.size, 2, none⟩ = some (.slice va d.ty.length vc) := fun wx t h => ⟨h.cell 0, h.cell 1, h.cell 2⟩
        have HS0 := hide_ (tri w7.drew _ HKz7.out.drew)
        have HS1 := hide_ (tri (w7.alloc (.cells #[.string d.name, .int .i64 d.a, .slice (some ⟨g7, 0, none⟩) d.ty.length c7] 41)).drew _ (HKz7.out.alloc _).drew)
        have HS2 := hide_ (tri w8' _ kz8')
        have HS3 := hide_ (tri (w8'.setCell ⟨w.heap.size + 1 + 1 + 1, 0, none⟩ (.slice (some ⟨g8, 0, none⟩) (k + 1) c8)) _ (kz8'.other _ _ HNe4.out))
        clear tri kz8' y0 y1 y2
        go_wp2_with fail
        refine wp_region_held_drew (S := (fun w' => w'.cell? ⟨wq.heap.size, 0, none⟩ = some (.string d.name) ∧ w'.cell? ⟨wq.heap.size, 1, none⟩ = some (.int .i64 d.a) ∧ w'.cell? ⟨wq.heap.size, 2, none⟩ = some (.slice va d.ty.length vc))) (by kernel_rfl) HS0.out (fun hHeld => ?_)
        refine wpAnyH_take (i := 0) (v := ?v15) rfl (by kernel_rfl) (by kernel_rfl) (by kernel_rfl) (fun _ _ _ h => h) (Or.inl ⟨by rfl, ?hy15⟩) hHeld ?rest15
        case hy15 => intro w' hSw; (try dsimp only at hSw); go_simp; try with_reducible rfl
        simp only [Act.put]
        refine wpAnyH_take (i := 2) (v := ?v16) rfl (by kernel_rfl) (by kernel_rfl) (by kernel_rfl) (fun _ _ _ h => h) (Or.inl ⟨by rfl, ?hy16⟩) hHeld ?rest16
        case hy16 => intro w' hSw; (try dsimp only at hSw); go_simp; try with_reducible rfl
        simp only [Act.put]
        refine wpAnyH_take (i := 4) (v := ?v17) rfl (by kernel_rfl) (by kernel_rfl) (by kernel_rfl) (fun _ _ _ h => h) (Or.inl ⟨by rfl, ?hy17⟩) hHeld ?rest17
        case hy17 => intro w' hSw; (try dsimp only at hSw); go_simp; try with_reducible rfl
        simp only [Act.put]
        refine wpAnyH_take (i := 6) (v := ?v18) rfl (by kernel_rfl) (by kernel_rfl) (by kernel_rfl) (fun _ _ _ h => h) (Or.inl ⟨by rfl, ?hy18⟩) hHeld ?rest18
        case hy18 => intro w' hSw; (try dsimp only at hSw); go_simp; try with_reducible rfl
        simp only [Act.put]
        refine wpAnyH_take (i := 7) (v := ?v19) rfl (by kernel_rfl) (by kernel_rfl) (by kernel_rfl) (fun _ _ _ h => h) (Or.inl ⟨by rfl, ?hy19⟩) hHeld ?rest19
        case hy19 => intro w' hSw; (try dsimp only at hSw); go_simp; try with_reducible rfl
        simp only [Act.put]
        refine wpAnyH_take (i := 3) (v := ?v20) rfl (by kernel_rfl) (by kernel_rfl) (by kernel_rfl) (fun _ _ _ h => h) (Or.inl ⟨by rfl, ?hy20⟩) hHeld ?rest20
        case hy20 => intro w' hSw; (try dsimp only at hSw); go_simp; try with_reducible rfl
        simp only [Act.put]
        refine wpAnyH_take (i := 5) (v := ?v21) rfl (by kernel_rfl) (by kernel_rfl) (by kernel_rfl) (fun _ _ _ h => h) (Or.inl ⟨by rfl, ?hy21⟩) hHeld ?rest21
        case hy21 => intro w' hSw; (try dsimp only at hSw); go_simp; try with_reducible rfl
        simp only [Act.put]
        refine wpAnyH_take (i := 8) (v := ?v22) rfl (by kernel_rfl) (by kernel_rfl) (by kernel_rfl) (fun _ _ _ h => h) (Or.inl ⟨by rfl, ?hy22⟩) hHeld ?rest22
        case hy22 => intro w' hSw; (try dsimp only at hSw); go_simp; try with_reducible rfl
        simp only [Act.put]
        refine wpAnyH_take (i := 9) (v := ?v23) rfl (by kernel_rfl) (by kernel_rfl) (by kernel_rfl) (fun _ _ _ h => h) (Or.inl ⟨by rfl, ?hy23⟩) hHeld ?rest23
        case hy23 => intro w' hSw; (try dsimp only at hSw); go_simp; try with_reducible rfl
        simp only [Act.put]
        refine wpAnyH_take (i := 10) (v := ?v24) rfl (by kernel_rfl) (by kernel_rfl) (by kernel_rfl) (fun _ _ _ h => h) (Or.inl ⟨by rfl, ?hy24⟩) hHeld ?rest24
        case hy24 => intro w' hSw; (try dsimp only at hSw); go_simp; try with_reducible rfl
        simp only [Act.put]
        refine wpAnyH_take (i := 11) (v := ?v25) rfl (by kernel_rfl) (by kernel_rfl) (by kernel_rfl) (fun _ _ _ h => h) (Or.inl ⟨by rfl, ?hy25⟩) hHeld ?rest25
        case hy25 => intro w' hSw; (try dsimp only at hSw); go_simp; try with_reducible rfl
        simp only [Act.put]
        refine wpAnyH_ready (rs := [1, 12]) (by kernel_rfl) (by simp) ?_
        refine AllReadyH.cons rfl (fun K hK => ?_) ?_
        · go_simp
          refine hK.out _ _ (by first | exact HS1.out | exact HS2.out | exact HS3.out | exact HS0.out) (fun hHeld => ?_)
          clear hK K
          refine wpAnyH_ready (rs := [12]) (by kernel_rfl) (by simp) ?_
          refine AllReadyH.cons rfl (fun K hK => ?_) ?_
          · go_simp
            refine hK.out _ _ (by first | exact HS1.out | exact HS2.out | exact HS3.out | exact HS0.out) (fun hHeld => ?_)
            clear hK K
            refine wpAnyH_ready (rs := [13]) (by kernel_rfl) (by simp) ?_
            refine AllReadyH.cons rfl (fun K hK => ?_) ?_
            · refine step_append_run rfl (.tmp 30) (.tmp 41) 22 22 rfl rfl rfl HR8.out ?_
              refine hK.out _ _ (by first | exact HS1.out | exact HS2.out | exact HS3.out | exact HS0.out) (fun hHeld => ?_)
              clear hK K
              refine wpAnyH_take (i := 14) (v := ?v26) rfl (by kernel_rfl) (by kernel_rfl) (by kernel_rfl) (fun _ _ _ h => h) (Or.inl ⟨by rfl, ?hy26⟩) hHeld ?rest26
              case hy26 => intro w' hSw; (try dsimp only at hSw); go_simp; try with_reducible rfl
              simp only [Act.put]
              refine wpAnyH_ready (rs := [15]) (by kernel_rfl) (by simp) ?_
              refine AllReadyH.cons rfl (fun K hK => ?_) ?_
              · go_simp
                refine hK.out _ _ (by first | exact HS1.out | exact HS2.out | exact HS3.out | exact HS0.out) (fun hHeld => ?_)
                clear hK K
                refine wpAnyH_done (by kernel_rfl) ?_ _
                go_wp2
                go_meet
                case rel => exact Hw8.out
              exact AllReadyH.nil
            exact AllReadyH.nil
          exact AllReadyH.nil
        refine AllReadyH.cons rfl (fun K hK => ?_) ?_
        · go_simp
          refine hK.out _ _ (by first | exact HS1.out | exact HS2.out | exact HS3.out | exact HS0.out) (fun hHeld => ?_)
          clear hK K
          refine wpAnyH_ready (rs := [1]) (by kernel_rfl) (by simp) ?_
          refine AllReadyH.cons rfl (fun K hK => ?_) ?_
          · go_simp
            refine hK.out _ _ (by first | exact HS1.out | exact HS2.out | exact HS3.out | exact HS0.out) (fun hHeld => ?_)
            clear hK K
            refine wpAnyH_ready (rs := [13]) (by kernel_rfl) (by simp) ?_
            refine AllReadyH.cons rfl (fun K hK => ?_) ?_
            · refine step_append_run rfl (.tmp 30) (.tmp 41) 22 22 rfl rfl rfl HR8.out ?_
              refine hK.out _ _ (by first | exact HS1.out | exact HS2.out | exact HS3.out | exact HS0.out) (fun hHeld => ?_)
              clear hK K
              refine wpAnyH_take (i := 14) (v := ?v27) rfl (by kernel_rfl) (by kernel_rfl) (by kernel_rfl) (fun _ _ _ h => h) (Or.inl ⟨by rfl, ?hy27⟩) hHeld ?rest27
              case hy27 => intro w' hSw; (try dsimp only at hSw); go_simp; try with_reducible rfl
              simp only [Act.put]
              refine wpAnyH_ready (rs := [15]) (by kernel_rfl) (by simp) ?_
              refine AllReadyH.cons rfl (fun K hK => ?_) ?_
              · go_simp
                refine hK.out _ _ (by first | exact HS1.out | exact HS2.out | exact HS3.out | exact HS0.out) (fun hHeld => ?_)
                clear hK K
                refine wpAnyH_done (by kernel_rfl) ?_ _
                go_wp2
                go_meet
                case rel => exact Hw8.out
              exact AllReadyH.nil
            exact AllReadyH.nil
          exact AllReadyH.nil
        exact AllReadyH.nil
      case rest =>
      subst hcut
      clear x4 x4a y0 y1 y2 x8 z8
      have x5 : w8.cell? ⟨w.heap.size + 1 + 1 + 1 + 1, 0, none⟩ = some (.slice ea k ec) := HKB5.out.cell 0
      have x5a : ∀ ob, (w8.alloc ob).cell? ⟨w.heap.size + 1 + 1 + 1 + 1, 0, none⟩ = some (.slice ea k ec) := fun ob => (cell_al w8 ob _ _ HKB5.out.lt).trans (HKB5.out.cell 0)
      have x5b : w9.cell? ⟨w.heap.size + 1 + 1 + 1 + 1, 0, none⟩ = some (.slice ea k ec) := HK5.out.cell 0
      have x5c : ∀ ob, (w9.alloc ob).cell? ⟨w.heap.size + 1 + 1 + 1 + 1, 0, none⟩ = some (.slice ea k ec) := fun ob => (cell_al w9 ob _ _ HK5.out.lt).trans (HK5.out.cell 0)
      have y0 := HKz8.out.cell 0; have y1 := HKz8.out.cell 1; have y2 := HKz8.out.cell 2
      have y0a : ∀ ob, (w8.alloc ob).cell? ⟨wq.heap.size, 0, none⟩ = some (.string d.name) := fun ob => (cell_al w8 ob _ _ HKz8.out.lt).trans (HKz8.out.cell 0)
      have y1a : ∀ ob, (w8.alloc ob).cell? ⟨wq.heap.size, 1, none⟩ = some (.int .i64 d.a) := fun ob => (cell_al w8 ob _ _ HKz8.out.lt).trans (HKz8.out.cell 1)
      have y2a : ∀ ob, (w8.alloc ob).cell? ⟨wq.heap.size, 2, none⟩ = some (.slice va d.ty.length vc) := fun ob => (cell_al w8 ob _ _ HKz8.out.lt).trans (HKz8.out.cell 2)
      have q0 := HKz9.out.cell 0; have q1 := HKz9.out.cell 1
      simp at y0 y1 y2 q0 q1
      have x10 : w10.cell? ⟨w.heap.size + 1 + 1 + 1 + 1, 0, none⟩ = some (.slice ea k ec) := HX10.out
      have z10 : w10.frozen? ⟨w.heap.size + 1 + 1 + 1 + 1, 0, none⟩ = false := HZ10.out
      have HMs : Hid (k + 1 ≤ n) := hlt
      have kz10 : Blk w10 wq.heap.size 41 [.string d.name, .int .i64 d.a, .slice va d.ty.length vc] := HKz10.out
      have tri : ∀ (wx : World) (t : TypeId), Blk wx wq.heap.size t [.string d.name, .int .i64 d.a, .slice va d.ty.length vc] → wx.cell? ⟨wq.heap.size, 0, none⟩ = some (.string d.name) ∧ wx.cell? ⟨wq.heap.size, 1, none⟩ = some (.int .i64 d.a) ∧ wx.cell? ⟨wq.heap.size, 2, none⟩ = some (.slice va d.ty.length vc) := fun wx t h => ⟨h.cell 0, h.cell 1, h.cell 2⟩
      have HS0 := hide_ (tri w8.drew _ HKz8.out.drew)
      have HS1 := hide_ (tri (w8.alloc (.cells #[] 38)).drew _ (HKz8.out.alloc _).drew)
      have HS2 := hide_ (tri w9 _ HKz9.out)
      have HS3 := hide_ (tri (w9.alloc (.cells #[.string d.name, .int .i64 d.a, .slice ga9 d.ty.length c9] 41)) _ (HKz9.out.alloc _))
      have HS4 := hide_ (tri w10 _ kz10)
      have HS5 := hide_ (tri (w10.setCell ⟨w.heap.size + 1 + 1 + 1 + 1, 0, none⟩ (.slice (some ⟨g10, 0, none⟩) (k + 1) c10)) _ (kz10.other _ _ HNe5.out))
      clear tri kz10 y0 y1 y2 y0a y1a y2a q0 q1 hle7 hw0 hL7
      go_wp2_with fail
      refine wp_region_held_drew (S := (fun w' => w'.cell? ⟨wq.heap.size, 0, none⟩ = some (.string d.name) ∧ w'.cell? ⟨wq.heap.size, 1, none⟩ = some (.int .i64 d.a) ∧ w'.cell? ⟨wq.heap.size, 2, none⟩ = some (.slice va d.ty.length vc))) (by kernel_rfl) HS0.out (fun hHeld => ?_)
      refine wpAnyH_take (i := 0) (v := ?v1) rfl (by kernel_rfl) (by kernel_rfl) (by kernel_rfl) (fun _ _ _ h => h) (Or.inl ⟨by rfl, ?hy1⟩) hHeld ?rest1
      case hy1 => intro w' hSw; (try dsimp only at hSw); go_simp; try with_reducible rfl
      simp only [Act.put]
      refine wpAnyH_take (i := 2) (v := ?v2) rfl (by kernel_rfl) (by kernel_rfl) (by kernel_rfl) (fun _ _ _ h => h) (Or.inl ⟨by rfl, ?hy2⟩) hHeld ?rest2
      case hy2 => intro w' hSw; (try dsimp only at hSw); go_simp; try with_reducible rfl
      simp only [Act.put]
      refine wpAnyH_take (i := 4) (v := ?v3) rfl (by kernel_rfl) (by kernel_rfl) (by kernel_rfl) (fun _ _ _ h => h) (Or.inl ⟨by rfl, ?hy3⟩) hHeld ?rest3
      case hy3 => intro w' hSw; (try dsimp only at hSw); go_simp; try with_reducible rfl
      simp only [Act.put]
      refine wpAnyH_take (i := 7) (v := ?v4) rfl (by kernel_rfl) (by kernel_rfl) (by kernel_rfl) (fun _ _ _ h => h) (Or.inl ⟨by rfl, ?hy4⟩) hHeld ?rest4
      case hy4 => intro w' hSw; (try dsimp only at hSw); go_simp; try with_reducible rfl
      simp only [Act.put]
      refine wpAnyH_take (i := 3) (v := ?v5) rfl (by kernel_rfl) (by kernel_rfl) (by kernel_rfl) (fun _ _ _ h => h) (Or.inl ⟨by rfl, ?hy5⟩) hHeld ?rest5
      case hy5 => intro w' hSw; (try dsimp only at hSw); go_simp; try with_reducible rfl
      simp only [Act.put]
      refine wpAnyH_take (i := 5) (v := ?v6) rfl (by kernel_rfl) (by kernel_rfl) (by kernel_rfl) (fun _ _ _ h => h) (Or.inl ⟨by rfl, ?hy6⟩) hHeld ?rest6
      case hy6 => intro w' hSw; (try dsimp only at hSw); go_simp; try with_reducible rfl
      simp only [Act.put]
      refine wpAnyH_take (i := 8) (v := ?v7) rfl (by kernel_rfl) (by kernel_rfl) (by kernel_rfl) (fun _ _ _ h => h) (Or.inl ⟨by rfl, ?hy7⟩) hHeld ?rest7
      case hy7 => intro w' hSw; (try dsimp only at hSw); go_simp; try with_reducible rfl
      simp only [Act.put]
      refine wpAnyH_ready (rs := [1, 6]) (by kernel_rfl) (by simp) ?_
      refine AllReadyH.cons rfl (fun K hK => ?_) ?_
      · go_simp
        refine hK.out _ _ (by first | exact HS1.out | exact HS2.out | exact HS3.out | exact HS4.out | exact HS5.out | exact HS0.out) (fun hHeld => ?_)
        clear hK K
        refine wpAnyH_ready (rs := [6]) (by kernel_rfl) (by simp) ?_
        refine AllReadyH.cons rfl (fun K hK => ?_) ?_
        · go_simp
          refine hK.out _ _ (by first | exact HS1.out | exact HS2.out | exact HS3.out | exact HS4.out | exact HS5.out | exact HS0.out) (fun hHeld => ?_)
          clear hK K
          refine wpAnyH_ready (rs := [9]) (by kernel_rfl) (by simp) ?_
          refine AllReadyH.cons rfl (fun K hK => ?_) ?_
          · refine step_append_run rfl (.tmp 50) (.tmp 52) 39 39 rfl rfl rfl HR9.out ?_
            refine hK.out _ _ (by first | exact HS1.out | exact HS2.out | exact HS3.out | exact HS4.out | exact HS5.out | exact HS0.out) (fun hHeld => ?_)
            clear hK K
            refine wpAnyH_take (i := 10) (v := ?v8) rfl (by kernel_rfl) (by kernel_rfl) (by kernel_rfl) (fun _ _ _ h => h) (Or.inl ⟨by rfl, ?hy8⟩) hHeld ?rest8
            case hy8 => intro w' hSw; (try dsimp only at hSw); go_simp; try with_reducible rfl
            simp only [Act.put]
            refine wpAnyH_ready (rs := [11]) (by kernel_rfl) (by simp) ?_
            refine AllReadyH.cons rfl (fun K hK => ?_) ?_
            · go_simp
              refine hK.out _ _ (by first | exact HS1.out | exact HS2.out | exact HS3.out | exact HS4.out | exact HS5.out | exact HS0.out) (fun hHeld => ?_)
              clear hK K
              refine wpAnyH_ready (rs := [12]) (by kernel_rfl) (by simp) ?_
              refine AllReadyH.cons rfl (fun K hK => ?_) ?_
              · refine step_append_run rfl (.tmp 45) (.tmp 55) 22 22 rfl rfl rfl HR10.out ?_
                refine hK.out _ _ (by first | exact HS1.out | exact HS2.out | exact HS3.out | exact HS4.out | exact HS5.out | exact HS0.out) (fun hHeld => ?_)
                clear hK K
                refine wpAnyH_take (i := 13) (v := ?v9) rfl (by kernel_rfl) (by kernel_rfl) (by kernel_rfl) (fun _ _ _ h => h) (Or.inl ⟨by rfl, ?hy9⟩) hHeld ?rest9
                case hy9 => intro w' hSw; (try dsimp only at hSw); go_simp; try with_reducible rfl
                simp only [Act.put]
                refine wpAnyH_ready (rs := [14]) (by kernel_rfl) (by simp) ?_
                refine AllReadyH.cons rfl (fun K hK => ?_) ?_
                · go_simp
                  refine hK.out _ _ (by first | exact HS1.out | exact HS2.out | exact HS3.out | exact HS4.out | exact HS5.out | exact HS0.out) (fun hHeld => ?_)
                  clear hK K
                  refine wpAnyH_done (by kernel_rfl) ?_ _
                  clear x5 x5a x5b x5c x10 z10
                  have hk1 := HMs.out
                  go_wp2
                  go_roundw
                  case rel => exact ⟨k + 1, _, _, _, _, HMs.out, by go_num, HT11, HMX11⟩
                  case measure => simp [intOf]; omega
                exact AllReadyH.nil
              exact AllReadyH.nil
            exact AllReadyH.nil
          exact AllReadyH.nil
        exact AllReadyH.nil
      refine AllReadyH.cons rfl (fun K hK => ?_) ?_
      · go_simp
        refine hK.out _ _ (by first | exact HS1.out | exact HS2.out | exact HS3.out | exact HS4.out | exact HS5.out | exact HS0.out) (fun hHeld => ?_)
        clear hK K
        refine wpAnyH_ready (rs := [1, 9]) (by kernel_rfl) (by simp) ?_
        refine AllReadyH.cons rfl (fun K hK => ?_) ?_
        · go_simp
          refine hK.out _ _ (by first | exact HS1.out | exact HS2.out | exact HS3.out | exact HS4.out | exact HS5.out | exact HS0.out) (fun hHeld => ?_)
          clear hK K
          refine wpAnyH_ready (rs := [9]) (by kernel_rfl) (by simp) ?_
          refine AllReadyH.cons rfl (fun K hK => ?_) ?_
          · refine step_append_run rfl (.tmp 50) (.tmp 52) 39 39 rfl rfl rfl HR9.out ?_
            refine hK.out _ _ (by first | exact HS1.out | exact HS2.out | exact HS3.out | exact HS4.out | exact HS5.out | exact HS0.out) (fun hHeld => ?_)
            clear hK K
            refine wpAnyH_take (i := 10) (v := ?v10) rfl (by kernel_rfl) (by kernel_rfl) (by kernel_rfl) (fun _ _ _ h => h) (Or.inl ⟨by rfl, ?hy10⟩) hHeld ?rest10
            case hy10 => intro w' hSw; (try dsimp only at hSw); go_simp; try with_reducible rfl
            simp only [Act.put]
            refine wpAnyH_ready (rs := [11]) (by kernel_rfl) (by simp) ?_
            refine AllReadyH.cons rfl (fun K hK => ?_) ?_
            · go_simp
              refine hK.out _ _ (by first | exact HS1.out | exact HS2.out | exact HS3.out | exact HS4.out | exact HS5.out | exact HS0.out) (fun hHeld => ?_)
              clear hK K
              refine wpAnyH_ready (rs := [12]) (by kernel_rfl) (by simp) ?_
              refine AllReadyH.cons rfl (fun K hK => ?_) ?_
              · refine step_append_run rfl (.tmp 45) (.tmp 55) 22 22 rfl rfl rfl HR10.out ?_
                refine hK.out _ _ (by first | exact HS1.out | exact HS2.out | exact HS3.out | exact HS4.out | exact HS5.out | exact HS0.out) (fun hHeld => ?_)
                clear hK K
                refine wpAnyH_take (i := 13) (v := ?v11) rfl (by kernel_rfl) (by kernel_rfl) (by kernel_rfl) (fun _ _ _ h => h) (Or.inl ⟨by rfl, ?hy11⟩) hHeld ?rest11
                case hy11 => intro w' hSw; (try dsimp only at hSw); go_simp; try with_reducible rfl
                simp only [Act.put]
                refine wpAnyH_ready (rs := [14]) (by kernel_rfl) (by simp) ?_
                refine AllReadyH.cons rfl (fun K hK => ?_) ?_
                · go_simp
                  refine hK.out _ _ (by first | exact HS1.out | exact HS2.out | exact HS3.out | exact HS4.out | exact HS5.out | exact HS0.out) (fun hHeld => ?_)
                  clear hK K
                  refine wpAnyH_done (by kernel_rfl) ?_ _
                  clear x5 x5a x5b x5c x10 z10
                  have hk1 := HMs.out
                  go_wp2
                  go_roundw
                  case rel => exact ⟨k + 1, _, _, _, _, HMs.out, by go_num, HT11, HMX11⟩
                  case measure => simp [intOf]; omega
                exact AllReadyH.nil
              exact AllReadyH.nil
            exact AllReadyH.nil
          exact AllReadyH.nil
        refine AllReadyH.cons rfl (fun K hK => ?_) ?_
        · refine step_append_run rfl (.tmp 50) (.tmp 52) 39 39 rfl rfl rfl HR9.out ?_
          refine hK.out _ _ (by first | exact HS1.out | exact HS2.out | exact HS3.out | exact HS4.out | exact HS5.out | exact HS0.out) (fun hHeld => ?_)
          clear hK K
          refine wpAnyH_take (i := 10) (v := ?v12) rfl (by kernel_rfl) (by kernel_rfl) (by kernel_rfl) (fun _ _ _ h => h) (Or.inl ⟨by rfl, ?hy12⟩) hHeld ?rest12
          case hy12 => intro w' hSw; (try dsimp only at hSw); go_simp; try with_reducible rfl
          simp only [Act.put]
          refine wpAnyH_ready (rs := [1, 11]) (by kernel_rfl) (by simp) ?_
          refine AllReadyH.cons rfl (fun K hK => ?_) ?_
          · go_simp
            refine hK.out _ _ (by first | exact HS1.out | exact HS2.out | exact HS3.out | exact HS4.out | exact HS5.out | exact HS0.out) (fun hHeld => ?_)
            clear hK K
            refine wpAnyH_ready (rs := [11]) (by kernel_rfl) (by simp) ?_
            refine AllReadyH.cons rfl (fun K hK => ?_) ?_
            · go_simp
              refine hK.out _ _ (by first | exact HS1.out | exact HS2.out | exact HS3.out | exact HS4.out | exact HS5.out | exact HS0.out) (fun hHeld => ?_)
              clear hK K
              refine wpAnyH_ready (rs := [12]) (by kernel_rfl) (by simp) ?_
              refine AllReadyH.cons rfl (fun K hK => ?_) ?_
              · refine step_append_run rfl (.tmp 45) (.tmp 55) 22 22 rfl rfl rfl HR10.out ?_
                refine hK.out _ _ (by first | exact HS1.out | exact HS2.out | exact HS3.out | exact HS4.out | exact HS5.out | exact HS0.out) (fun hHeld => ?_)
                clear hK K
                refine wpAnyH_take (i := 13) (v := ?v13) rfl (by kernel_rfl) (by kernel_rfl) (by kernel_rfl) (fun _ _ _ h => h) (Or.inl ⟨by rfl, ?hy13⟩) hHeld ?rest13
                case hy13 => intro w' hSw; (try dsimp only at hSw); go_simp; try with_reducible rfl
                simp only [Act.put]
                refine wpAnyH_ready (rs := [14]) (by kernel_rfl) (by simp) ?_
                refine AllReadyH.cons rfl (fun K hK => ?_) ?_
                · go_simp
                  refine hK.out _ _ (by first | exact HS1.out | exact HS2.out | exact HS3.out | exact HS4.out | exact HS5.out | exact HS0.out) (fun hHeld => ?_)
                  clear hK K
                  refine wpAnyH_done (by kernel_rfl) ?_ _
                  clear x5 x5a x5b x5c x10 z10
                  have hk1 := HMs.out
                  go_wp2
                  go_roundw
                  case rel => exact ⟨k + 1, _, _, _, _, HMs.out, by go_num, HT11, HMX11⟩
                  case measure => simp [intOf]; omega
                exact AllReadyH.nil
              exact AllReadyH.nil
            exact AllReadyH.nil
          refine AllReadyH.cons rfl (fun K hK => ?_) ?_
          · go_simp
            refine hK.out _ _ (by first | exact HS1.out | exact HS2.out | exact HS3.out | exact HS4.out | exact HS5.out | exact HS0.out) (fun hHeld => ?_)
            clear hK K
            refine wpAnyH_ready (rs := [1]) (by kernel_rfl) (by simp) ?_
            refine AllReadyH.cons rfl (fun K hK => ?_) ?_
            · go_simp
              refine hK.out _ _ (by first | exact HS1.out | exact HS2.out | exact HS3.out | exact HS4.out | exact HS5.out | exact HS0.out) (fun hHeld => ?_)
              clear hK K
              refine wpAnyH_ready (rs := [12]) (by kernel_rfl) (by simp) ?_
              refine AllReadyH.cons rfl (fun K hK => ?_) ?_
              · refine step_append_run rfl (.tmp 45) (.tmp 55) 22 22 rfl rfl rfl HR10.out ?_
                refine hK.out _ _ (by first | exact HS1.out | exact HS2.out | exact HS3.out | exact HS4.out | exact HS5.out | exact HS0.out) (fun hHeld => ?_)
                clear hK K
                refine wpAnyH_take (i := 13) (v := ?v14) rfl (by kernel_rfl) (by kernel_rfl) (by kernel_rfl) (fun _ _ _ h => h) (Or.inl ⟨by rfl, ?hy14⟩) hHeld ?rest14
                case hy14 => intro w' hSw; (try dsimp only at hSw); go_simp; try with_reducible rfl
                simp only [Act.put]
                refine wpAnyH_ready (rs := [14]) (by kernel_rfl) (by simp) ?_
                refine AllReadyH.cons rfl (fun K hK => ?_) ?_
                · go_simp
                  refine hK.out _ _ (by first | exact HS1.out | exact HS2.out | exact HS3.out | exact HS4.out | exact HS5.out | exact HS0.out) (fun hHeld => ?_)
                  clear hK K
                  refine wpAnyH_done (by kernel_rfl) ?_ _
                  clear x5 x5a x5b x5c x10 z10
                  have hk1 := HMs.out
                  go_wp2
                  go_roundw
                  case rel => exact ⟨k + 1, _, _, _, _, HMs.out, by go_num, HT11, HMX11⟩
                  case measure => simp [intOf]; omega
                exact AllReadyH.nil
              exact AllReadyH.nil
            exact AllReadyH.nil
          exact AllReadyH.nil
        exact AllReadyH.nil
      exact AllReadyH.nil
    · obtain rfl : k = n := by omega
      have hDk : D.take k = D := by rw [← Hn.out, List.take_length]
      rw [hDk] at t1 t2
      rw [hDk] at HMX
      obtain ⟨da, dc, hvi⟩ := own_slice t1.2.1
      obtain ⟨ea, ec, hvk⟩ := own_slice t2.2.1
      subst hvi hvk
      have x4 : wq.cell? ⟨w.heap.size + 1 + 1 + 1, 0, none⟩ = some (.slice da D.length dc) := t3.cell 0
      have x5 : wq.cell? ⟨w.heap.size + 1 + 1 + 1 + 1, 0, none⟩ = some (.slice ea D.length ec) := t4.cell 0
      have x2 : wq.cell? ⟨w.heap.size + 1, 0, none⟩ = some (.slice none 0 0) := t7.cell 0
      have x3 : wq.cell? ⟨w.heap.size + 1 + 1, 0, none⟩ = some (.slice none 0 0) := t8.cell 0
      have z2 : wq.frozen? ⟨w.heap.size + 1, 0, none⟩ = false := t7.frozen 0
      have z3 : wq.frozen? ⟨w.heap.size + 1 + 1, 0, none⟩ = false := t8.frozen 0
      have HT1 := hide_ t1
      have HT2 := hide_ t2
      have HT7 := hide_ t7
      have HT8 := hide_ t8
      have HT9 := hide_ t9
      have HT10 := hide_ t10
      clear t1 t2 t3 t4 t5 t6 t7 t8 t9 t10 HT hDk
      obtain ⟨wF, hwF⟩ : ∃ wF, wF = ((wq.setCell ⟨w.heap.size + 1, 0, none⟩ (.slice da D.length dc)).setCell ⟨w.heap.size + 1 + 1, 0, none⟩ (.slice ea D.length ec)).drew := ⟨_, rfl⟩
      have hF : Blk wF (w.heap.size + 1) 24 [.slice da D.length dc] ∧ Blk wF (w.heap.size + 1 + 1) 24 [.slice ea D.length ec] ∧ Src wF w.heap.size (.slice da D.length dc) D vsi ∧ Src wF w.heap.size (.slice ea D.length ec) D vsk ∧ Below w.heap.size w wF ∧ MkX wF D vsi := by
        rw [hwF]
        have hU1 : Upd (fun j => j = w.heap.size + 1) wq (wq.setCell ⟨w.heap.size + 1, 0, none⟩ (.slice da D.length dc)) := (Upd.refl _ wq).set _ _ (.inl rfl)
        have k8 : Blk (wq.setCell ⟨w.heap.size + 1, 0, none⟩ (.slice da D.length dc)) (w.heap.size + 1 + 1) 24 [.slice none 0 0] := HT8.out.other _ _ (by show w.heap.size + 2 ≠ w.heap.size + 1; omega)
        have k7 : Blk (wq.setCell ⟨w.heap.size + 1, 0, none⟩ (.slice da D.length dc)) (w.heap.size + 1) 24 [.slice da D.length dc] := by have := HT7.out.set 0 (.slice da D.length dc); simpa using this
        have hU2 : Upd (fun j => j = w.heap.size + 1 + 1) (wq.setCell ⟨w.heap.size + 1, 0, none⟩ (.slice da D.length dc)) ((wq.setCell ⟨w.heap.size + 1, 0, none⟩ (.slice da D.length dc)).setCell ⟨w.heap.size + 1 + 1, 0, none⟩ (.slice ea D.length ec)) := (Upd.refl _ _).set _ _ (.inl rfl)
        refine ⟨(k7.other _ _ (by show w.heap.size + 1 ≠ w.heap.size + 1 + 1; omega)).drew, ?_, ?_, ?_, ?_, ?_⟩
        rotate_left 4
        · exact HMX.out.keep (fun b ys hb => ((hb.other _ _ (fun e => by subst e; exact absurd (blk_type hb HT7.out) (by decide))).other _ _ (fun e => by subst e; exact absurd (blk_type hb HT8.out) (by decide))).drew)
        · refine Blk.drew ?_
          have := k8.set 0 (.slice ea D.length ec)
          simpa using this
        · exact ((HT1.out.other hU1 HT7.out (by decide) (by decide)).other hU2 k8 (by decide) (by decide)).later ((Below.refl _ _).drew)
        · exact ((HT2.out.other hU1 HT7.out (by decide) (by decide)).other hU2 k8 (by decide) (by decide)).later ((Below.refl _ _).drew)
        · exact (below_set (below_set HT9.out _ 0 _ (by omega)) _ 0 _ (by omega)).drew
      have HF := hide_ hF
      clear hF HT1 HT2 HT7 HT8 HT9
      go_wp2_with fail
      go_region
      rw [← hwF]
      clear hwF x2 x3 x4 x5 z2 z3
      go_wp2
      exact bodyPost_ret (res2cells (show Tryd.f6.results = #[.cell 2 24, .cell 3 24] by rfl) _ _ (w.heap.size + 1) (w.heap.size + 1 + 1) 24 24 #[.slice da D.length dc] #[.slice ea D.length ec] (0, 0) (0, 0) _ rfl HF.out.1 rfl HF.out.2.1 Tryd.underlying24 rfl (by show _ = some 1; kernel_rfl) (by show _ = some 1; kernel_rfl)) rfl ⟨_, _, _, _, rfl, hide_ HF.out.2.2.1, hide_ HF.out.2.2.2.1, hide_ HF.out.2.2.2.2.1, HT10, hide_ HF.out.2.2.2.2.2⟩
end Go.Proofs.YtafljgjkcnbhbaaDoor

/- A source's printed text: plain. -/
namespace Go.Proofs.YtafljgjkcnbhbaaDoor
open Go.RowKit
set_option linter.unusedVariables false

theorem ws_det {st : Sty} : ∀ (fu d : Nat) (k : Int) (n : Nat) (A B A' B' : List Nd) (P P' : List (Q × List UInt8)), WS st fu d k n A P → WS st fu d k n A' P' → (A ++ B).map zNd = (A' ++ B').map zNd → A.map zNd = A'.map zNd ∧ B.map zNd = B'.map zNd ∧ P = P'
  | 0, d, k, n, A, B, A', B', P, P', h, h', e => by
    obtain ⟨_, rfl, rfl⟩ := h
    obtain ⟨_, rfl, rfl⟩ := h'
    exact ⟨rfl, by simpa using e, rfl⟩
  | fu + 1, d, k, 0, A, B, A', B', P, P', h, h', e => by
    obtain ⟨rfl, rfl⟩ := h
    obtain ⟨rfl, rfl⟩ := h'
    exact ⟨rfl, by simpa using e, rfl⟩
  | fu + 1, d, k, n + 1, A, B, A', B', P, P', h, h', e => by
    obtain ⟨x, A1, B1, PA, PB, rfl, hx, hA, hB, rfl⟩ := h
    obtain ⟨x', A1', B1', PA', PB', rfl, hx', hA', hB', rfl⟩ := h'
    simp only [List.cons_append, List.map_cons, List.append_assoc] at e
    injection e with e1 e2
    have k1 : x.k = x'.k := by have t := congrArg Nd.k e1; exact t
    have k2 : x.kids = x'.kids := by have t := congrArg Nd.kids e1; exact t
    rw [← k1, ← k2] at hA'
    obtain ⟨q1, q2, q3⟩ := ws_det fu _ _ _ A1 (B1 ++ B) A1' (B1' ++ B') PA PA' hA hA' e2
    obtain ⟨q4, q5, q6⟩ := ws_det fu _ _ _ B1 B B1' B' PB PB' hB hB' q2
    refine ⟨?_, q5, ?_⟩
    · simp only [List.map_cons, List.map_append]
      rw [e1, q1, q4]
    · have h1 : hdS st k x = hdS st k x' := by
        have : hdS st k (zNd x) = hdS st k (zNd x') := by rw [e1]
        exact this
      have h2 : opnS st x = opnS st x' := by
        have : opnS st (zNd x) = opnS st (zNd x') := by rw [e1]
        exact this
      have h3 : clsS st x = clsS st x' := by
        have : clsS st (zNd x) = clsS st (zNd x') := by rw [e1]
        exact this
      rw [h1, h2, h3, q3, q6]
theorem wds_det {st : Sty} : ∀ (D D' : List Df) (P P' : List (Q × List UInt8)), WDS st D P → WDS st D' P' → D.map zDf = D'.map zDf → P = P'
  | [], [], P, P', h, h', _ => by
    have h1 : P = [] := h
    have h2 : P' = [] := h'
    rw [h1, h2]
  | [], d :: D, P, P', h, h', e => by cases e
  | d :: D, [], P, P', h, h', e => by cases e
  | d :: D, d' :: D', P, P', h, h', e => by
    simp only [List.map_cons] at e
    injection e with e1 e2
    obtain ⟨PN, PD, hN, hD, rfl⟩ := h
    obtain ⟨PN', PD', hN', hD', rfl⟩ := h'
    have n1 : d.name = d'.name := by have t := congrArg Df.name e1; exact t
    have n2 : d.ty.map zNd = d'.ty.map zNd := by have t := congrArg Df.ty e1; exact t
    have n3 : d.ty.length = d'.ty.length := by have := congrArg List.length n2; simpa using this
    rw [← n3] at hN'
    obtain ⟨_, _, q⟩ := ws_det _ _ _ _ d.ty [] d'.ty [] PN PN' hN hN' (by simpa using n2)
    rw [n1, q, wds_det D D' PD PD' hD hD' e2]
theorem PrT.err {D : List Df} {X : ByteArray} {c : Int} (h : PrT D X c) (hc : c ≠ 0) : X = ⟨#[]⟩ := by
  rcases h with ⟨_, h, _⟩ | ⟨_, P, _, ⟨_, h, _⟩ | ⟨_, _, h⟩⟩
  · exact h
  · exact h
  · exact absurd h hc
theorem PrT.ok {D : List Df} {X : ByteArray} (h : PrT D X 0) : (ckP D).2.2 = 0 ∧ ∃ P, WDS st0 D P ∧ (txtP P).length ≤ 65536 ∧ X = ⟨(txtP P).toArray⟩ := by
  rcases h with ⟨h1, _, h⟩ | ⟨h1, P, h2, ⟨_, _, h⟩ | ⟨h3, h4, _⟩⟩
  · exact absurd h.symm h1
  · cases h
  · exact ⟨h1, P, h2, h3, h4⟩
/-- Sources that are the same have the same text. -/
theorem PrT.same {D D' : List Df} {X X' : ByteArray} {c' : Int} (h : PrT D X 0) (hk : (ckP D').2.2 = 0) (hz : D'.map zDf = D.map zDf) (h' : PrT D' X' c') : X' = X ∧ c' = 0 := by
  obtain ⟨_, P, h2, h3, h4⟩ := h.ok
  rcases h' with ⟨k1, _⟩ | ⟨_, P', k2, k3⟩
  · exact absurd hk k1
  · have e := wds_det _ _ _ _ k2 h2 hz
    subst e
    rcases k3 with ⟨k3, _⟩ | ⟨_, k4, k5⟩
    · omega
    · exact ⟨by rw [k4, h4], k5⟩
theorem zDf_dfP (ts : List Tk) (L : Nat) (d : Df) : zDf (dfP ts L d) = zDf d := by
  unfold zDf dfP
  simp only [List.map_map]
  congr 1
/-- What is printed is parsed back, to the same source. -/
theorem PrT.back {D : List Df} {X : ByteArray} (h : PrT D X 0) : ∃ D1, prsT X = (D1, 0, 0) ∧ D1.map zDf = D.map zDf ∧ (ckP D1).2.2 = 0 := by
  obtain ⟨h1, P, h2, h3, h4⟩ := h.ok
  obtain ⟨P0, D0, k1, k2, k3, k4⟩ := text_back st0_ok h1
  have e := wds_det _ _ _ _ k1 h2 rfl
  subst e
  have hX : X.data.toList = txtP P0 := by rw [h4]
  have hs : X.size ≤ 65536 := by rw [Lib.size_eq, hX]; exact h3
  obtain ⟨_, k5⟩ := k4 X hX hs
  refine ⟨_, k5, ?_, ?_⟩
  · rw [List.map_map, ← k3]
    exact List.map_congr_left fun d _ => zDf_dfP _ _ d
  · have := prs_check (s := X) (by rw [k5])
    rw [k5] at this
    rw [this]
/-! ### The fixed source -/
def nA : List Nd := [⟨5, 3, ⟨#[]⟩, ⟨#[]⟩, 0, 1, 0⟩, ⟨1, 2, ⟨#[]⟩, ⟨#[]⟩, 0, 0, 0⟩]
def dA : List Df := [⟨⟨#[97]⟩, 0, nA⟩]
def tA : ByteArray := ⟨#[116, 121, 112, 101, 32, 97, 61, 108, 105, 115, 116, 60, 117, 49, 54, 44, 51, 62, 59]⟩
theorem ckA : ckP dA = (0, 0, 0) := by rfl
theorem prA {X : ByteArray} {c : Int} (h : PrT dA X c) : X = tA ∧ c = 0 := by
  rcases h with ⟨k1, _⟩ | ⟨_, P, k2, k3⟩
  · rw [ckA] at k1; exact absurd rfl k1
  · have hw : ∃ P0, WDS st0 dA P0 ∧ txtP P0 = tA.data.toList :=
      ⟨_, ⟨_, [], ⟨⟨5, 3, ⟨#[]⟩, ⟨#[]⟩, 0, 1, 0⟩, [⟨1, 2, ⟨#[]⟩, ⟨#[]⟩, 0, 0, 0⟩], [], _, [], rfl, by rfl, ⟨⟨1, 2, ⟨#[]⟩, ⟨#[]⟩, 0, 0, 0⟩, [], [], [], [], rfl, by rfl, ⟨rfl, rfl, rfl⟩, ⟨rfl, rfl, rfl⟩, rfl⟩, ⟨rfl, rfl⟩, rfl⟩, rfl, rfl⟩, by rfl⟩
    obtain ⟨P0, k4, k5⟩ := hw
    have e := wds_det _ _ _ _ k2 k4 rfl
    subst e
    rw [k5] at k3
    rcases k3 with ⟨k3, _⟩ | ⟨_, k4, k5⟩
    · exact absurd k3 (by decide)
    · exact ⟨k4, k5⟩
end Go.Proofs.YtafljgjkcnbhbaaDoor

/- awake. -/
namespace Go.Proofs.YtafljgjkcnbhbaaDoor
open Go.RowKit
set_option linter.unusedVariables false

theorem bldA1 (w : World) : (Instr.build 38 #[(0, .int .i64 5), (1, .int .i64 3), (5, .int .i64 1)]).run Tryd.prog w = .ok (.agg #[.int .i64 5, .int .i64 3, .string ⟨#[]⟩, .string ⟨#[]⟩, .int .i64 0, .int .i64 1, .int .i64 0]) w := by kernel_rfl
theorem bldA2 (w : World) : (Instr.build 38 #[(0, .int .i64 1), (1, .int .i64 2)]).run Tryd.prog w = .ok (.agg #[.int .i64 1, .int .i64 2, .string ⟨#[]⟩, .string ⟨#[]⟩, .int .i64 0, .int .i64 0, .int .i64 0]) w := by kernel_rfl
theorem bldA3 (g : Nat) (w : World) : (Instr.build 41 #[(0, .string ⟨#[97]⟩), (2, .slice (some ⟨g, 0, none⟩) 2 2)]).run Tryd.prog w = .ok (.agg #[.string ⟨#[97]⟩, .int .i64 0, .slice (some ⟨g, 0, none⟩) 2 2]) w := by kernel_rfl
theorem bldA4 (g : Nat) (w : World) : (Instr.build 24 #[(0, .slice (some ⟨g, 0, none⟩) 1 1)]).run Tryd.prog w = .ok (.agg #[.slice (some ⟨g, 0, none⟩) 1 1]) w := by kernel_rfl
theorem bldA5 (w : World) : (Instr.build 24 #[]).run Tryd.prog w = .ok (.agg #[.slice none 0 0]) w := by kernel_rfl
theorem drow_one {w : World} {g1 g2 vc n : Nat} {nm : ByteArray} {a : Int} {N : List Nd} (hn : N.length = n) (h2 : Blk w g2 41 [.string nm, .int .i64 a, .slice (some ⟨g1, 0, none⟩) n vc]) (h1 : Blk w g1 38 (cellsN N)) (hv : n ≤ vc) : DRow w (some ⟨g2, 0, none⟩) [⟨nm, a, N⟩] := by
  subst hn
  refine .inr ⟨g2, 0, rfl, h2.lt, fun i d hd => ?_⟩
  have hi := (List.getElem?_eq_some_iff.1 hd).1
  obtain rfl : i = 0 := by simp at hi; omega
  simp at hd
  subst hd
  refine ⟨some ⟨g1, 0, none⟩, vc, fun j hj => ?_, hv, (fun h => by cases h), .inr ⟨g1, 0, rfl, h1.lt, fun i x hx j hj => ?_⟩⟩
  · rw [h2.cell]
    have : 0 + 0 * 3 + j = j := by omega
    rw [this]
    rfl
  · rw [h1.cell, ← cellsN_at N i j x hx hj]
    congr 1
    omega
set_option maxRecDepth 100000 in
set_option maxHeartbeats 8000000 in
theorem awake_any (w : World) (ht : Hid (Tab w.heap.size w)) : Calls Tryd.prog 5 #[] w fun e w' => e = .returned (.bool true) ∧ Below w.heap.size w w' := by
  have b1 := bldA1
  have b2 := bldA2
  have b3 := bldA3
  have b4 := bldA4
  have b5 := bldA5
  obtain ⟨wA, hwA⟩ : ∃ wA, wA = ((w.alloc (.cells #[.int .i64 5, .int .i64 3, .string ⟨#[]⟩, .string ⟨#[]⟩, .int .i64 0, .int .i64 1, .int .i64 0, .int .i64 1, .int .i64 2, .string ⟨#[]⟩, .string ⟨#[]⟩, .int .i64 0, .int .i64 0, .int .i64 0] 38)).alloc (.cells #[.string ⟨#[97]⟩, .int .i64 0, .slice (some ⟨w.heap.size, 0, none⟩) 2 2] 41)).alloc (.cells #[.slice (some ⟨w.heap.size + 1, 0, none⟩) 1 1] 24) := ⟨_, rfl⟩
  have k1 : Blk wA w.heap.size 38 (cellsN nA) := by rw [hwA]; exact ((Blk.newA w _ 38).alloc _).alloc _
  have k2 : Blk wA (w.heap.size + 1) 41 [.string ⟨#[97]⟩, .int .i64 0, .slice (some ⟨w.heap.size, 0, none⟩) 2 2] := by
    rw [hwA]
    have h := (Blk.newA (w.alloc (.cells #[.int .i64 5, .int .i64 3, .string ⟨#[]⟩, .string ⟨#[]⟩, .int .i64 0, .int .i64 1, .int .i64 0, .int .i64 1, .int .i64 2, .string ⟨#[]⟩, .string ⟨#[]⟩, .int .i64 0, .int .i64 0, .int .i64 0] 38)) #[.string ⟨#[97]⟩, .int .i64 0, .slice (some ⟨w.heap.size, 0, none⟩) 2 2] 41).alloc (.cells #[.slice (some ⟨w.heap.size + 1, 0, none⟩) 1 1] 24)
    simpa using h
  have k3 : Blk wA (w.heap.size + 2) 24 [.slice (some ⟨w.heap.size + 1, 0, none⟩) 1 1] := by
    rw [hwA]
    have h := Blk.newA ((w.alloc (.cells #[.int .i64 5, .int .i64 3, .string ⟨#[]⟩, .string ⟨#[]⟩, .int .i64 0, .int .i64 1, .int .i64 0, .int .i64 1, .int .i64 2, .string ⟨#[]⟩, .string ⟨#[]⟩, .int .i64 0, .int .i64 0, .int .i64 0] 38)).alloc (.cells #[.string ⟨#[97]⟩, .int .i64 0, .slice (some ⟨w.heap.size, 0, none⟩) 2 2] 41)) #[.slice (some ⟨w.heap.size + 1, 0, none⟩) 1 1] 24
    simpa using h
  have hBA : Below w.heap.size w wA := by rw [hwA]; exact (((Below.refl _ _).alloc (Nat.le_refl _) _).alloc (by simp) _).alloc (by simp; omega) _
  have HDA := hide_ (drow_one (n := 2) rfl k2 k1 (Nat.le_refl _))
  have HL : Hid (Lens dA) := hide_ ⟨by decide, fun d hd => by obtain rfl := List.mem_singleton.1 hd; decide⟩
  have HL0 : Hid (Lens []) := hide_ ⟨by decide, fun d hd => by cases hd⟩
  have HTab := hide_ (ht.out.at hBA)
  have HK3 := hide_ k3
  have HBA := hide_ hBA
  clear k1 k2 k3 hBA ht
  have HPr := hide_ (print_any (some ⟨w.heap.size + 1, 0, none⟩) 1 1 dA wA rfl HL.out HDA HTab)
  go_enter Tryd.func5, Tryd.ntmps5
  go_upto_region 2 with fail
  rw [← hwA]
  clear hwA b1 b2 b3 b4
  have x0 := HK3.out.cell 0
  simp at x0
  go_wp2_with fail
  refine HPr.out.mono ?_; rintro e w1 ⟨X, k, rfl, HX, HB1⟩
  obtain ⟨rfl, rfl⟩ := prA HX.out
  have HK4 := hide_ (HK3.out.later HB1.out)
  have HD4 := hide_ (HDA.out.later HB1.out)
  have HBw := hide_ (HBA.out.trans (HB1.out.mono HBA.out.size))
  clear HX HK3 HDA HPr x0 HB1 HBA HTab
  have x0 := HK4.out.cell 0
  simp at x0
  unfold tA
  go_wp2_with fail
  refine (showSame_any (some ⟨w.heap.size + 1, 0, none⟩) (some ⟨w.heap.size + 1, 0, none⟩) 1 1 dA dA w1 HL.out HL.out HD4 HD4).mono ?_; rintro e w2 ⟨v, rfl, HV, HB2⟩
  obtain rfl : v = true := HV.out.2 rfl
  have HK5 := hide_ (HK4.out.later HB2.out)
  have HD5 := hide_ (HD4.out.later HB2.out)
  have HB3 := hide_ (HBw.out.trans (HB2.out.mono HBw.out.size))
  clear HV HK4 HD4 HB2 HBw x0
  have x0 := HK5.out.cell 0
  simp at x0
  go_wp2_with fail
  refine (showSame_any (some ⟨w.heap.size + 1, 0, none⟩) none 1 0 dA [] w2 HL.out HL0.out HD5 (hide_ (.inl rfl))).mono ?_; rintro e w3 ⟨v, rfl, HV, HB4⟩
  obtain rfl : v = false := Bool.eq_false_iff.2 (fun h => by have := HV.out.1 h; cases this)
  have HB5 := hide_ (HB3.out.trans (HB4.out.mono HB3.out.size))
  clear HV HK5 HD5 HB4 HB3 x0
  go_wp2
  go_ret
  exact ⟨rfl, HB5.out⟩
end Go.Proofs.YtafljgjkcnbhbaaDoor
