import Derived.Test.YtbgjgbddpcofcaaGreatDoorPart34
import Derived.Test.YtbgjgbddpcofcaaGreatDoorPart22

/- types.Build: define, rootsOf, lookAtBounds. -/
namespace Go.Proofs.YtbgjgbddpcofcaaGreatDoor
open Go.RowKit
set_option linter.unusedVariables false

theorem bF_num (kn : ByteArray → Option Nat) (fu d : Nat) (k : Int) (N : List Nd) (h : Forest fu d k 1 N) (T : List Ty) (c : Nat) (hkn : ∀ s i, kn s = some i → i ≤ c) (hT : T.length + N.length ≤ c) : ∃ i : Nat, ((bF kn fu 1 N T).1.headD pt0).ty = (i : Int) ∧ i ≤ c := by
  obtain ⟨f, x, A, rfl, rfl, hnd, hFA⟩ := forest_one h
  rw [bF_one]
  dsimp only [List.headD]
  by_cases h9 : x.k = 9
  · rw [if_pos h9]
    refine ⟨_, rfl, ?_⟩
    cases hk : kn x.name with
    | none => simp
    | some i => simpa using hkn _ _ hk
  · rw [if_neg h9]
    have := (bF_len kn f _ _ _ A hFA [] T).2.1
    simp only [List.append_nil] at this
    simp only [List.length_cons] at hT
    exact ⟨_, rfl, by omega⟩
theorem bD_small {kn : ByteArray → Option Nat} {T : List Ty} {d : Df} {c : Nat} (h : Forest d.ty.length 0 0 1 d.ty) (hkn : ∀ s i, kn s = some i → i ≤ c) (hT : T.length + d.ty.length ≤ c) : (∀ s i, (bD kn T d).1 s = some i → i ≤ c) ∧ (bD kn T d).2.length ≤ T.length + d.ty.length := by
  obtain ⟨n, e, hn⟩ := bF_num kn _ _ _ _ h T c hkn hT
  have hl := (bF_len kn _ _ _ _ d.ty h [] T).2.1
  simp only [List.append_nil] at hl
  refine ⟨fun s i hs => ?_, hl⟩
  unfold bD at hs
  dsimp only at hs
  by_cases e2 : s = d.name
  · rw [if_pos e2, e] at hs
    injection hs with hs
    simp at hs
    omega
  · rw [if_neg e2] at hs
    exact hkn _ _ hs
def DfTo (w0 : World) (g bm nm : Nat) (kn : ByteArray → Option Nat) (d : Df) (v : Value) (Q : List (Ty × Value)) (w : World) (e : Ending) (w' : World) : Prop :=
  e = .returned (.tuple #[]) ∧ ∃ v' Q' r', BdM w0 w' g bm (nm + 1) v' Q' (bD kn (Q.map (·.1)) d).1 r' ∧ Q'.map (·.1) = (bD kn (Q.map (·.1)) d).2 ∧ Upd (fun k => k = g ∨ v.ownBlock = some k ∨ k = bm) w w'
set_option maxRecDepth 100000 in
set_option maxHeartbeats 8000000 in
theorem bdef_any (w0 : World) (g bm nm : Nat) (kn : ByteArray → Option Nat) (d : Df) (va : Option Addr) (vc : Nat) (v : Value) (Q : List (Ty × Value)) (r : Value) (w : World) (hF : Hid (Forest d.ty.length 0 0 1 d.ty)) (hok : Hid (∀ y ∈ d.ty, NodeOk1 y)) (hdn : d.name.size ≤ 32) (hl : Q.length + d.ty.length ≤ 1000000000) (hkn : Hid (∀ s i, kn s = some i → i ≤ 1000000000)) (hnm : nm ≤ 1000) (hvc : d.ty.length ≤ vc) (hN : Hid (NRow w0 va d.ty)) (hM : Hid (BdM w0 w g bm nm v Q kn r)) :
    Calls Tryz.prog 15 #[.pointer (some ⟨g, 0, none⟩), .agg #[.string d.name, .int .i64 d.a, .slice va d.ty.length vc]] w fun e w' => DfTo w0 g bm nm kn d v Q w e w' := by
  obtain ⟨w1, hw1⟩ : ∃ wx, wx = w.alloc (.cells #[.string d.name, .int .i64 d.a, .slice va d.ty.length vc] 38) := ⟨_, rfl⟩
  have hB1 : Below w.heap.size w w1 := by rw [hw1]; exact below1 _ _
  have kd : Blk w1 w.heap.size 38 [.string d.name, .int .i64 d.a, .slice va d.ty.length vc] := by rw [hw1]; exact Blk.newA w _ _
  have M1 := hM.out.later hB1
  have d2 := M1.1.cell 2; have dz := M1.1.frozen 2
  simp at d2
  have y2 := kd.cell 2
  simp at y2
  obtain ⟨w2, hw2⟩ : ∃ wx, wx = w1.setCell ⟨g, 2, none⟩ (.slice va d.ty.length vc) := ⟨_, rfl⟩
  have M2 : BdM w0 w2 g bm nm v Q kn (.slice va d.ty.length vc) := by rw [hw2]; exact M1.setR _
  have kd2 : Blk w2 w.heap.size 38 [.string d.name, .int .i64 d.a, .slice va d.ty.length vc] := by
    rw [hw2]
    exact kd.upd ((Upd.refl (fun q => q = g) w1).set _ _ (.inl rfl)) (fun e => absurd (blk_type kd (e ▸ M1.1)) (by decide))
  have hk2 : Bkg g v v Q Q w w2 := by
    rw [hw2]
    exact (Bkg.then (Bkg.refl g v Q w) hB1).set 2 _
  have D2 : Below w2.heap.size w2 w2.drew := (Below.refl w2.heap.size w2).drew
  have HTn := hide_ (tn_any w0 g bm nm kn d.ty.length 0 0 d.ty [] v Q (.slice va d.ty.length vc) w2.drew hF.out hok.out hl (hide_ (M2.later D2)) (hide_ ⟨va, vc, by simp, by simpa using hvc, by simpa using hN.out⟩))
  have HSS : Hid (∀ w', Below w2.heap.size w2 w' → (fun w' => w'.cell? ⟨g, 1, none⟩ = some (.map (some bm)) ∧ w'.cell? ⟨w.heap.size, 0, none⟩ = some (.string d.name)) w') := hide_ (fun w' hb => by
    have y0 := (M2.later hb).1.cell 1
    have z0 := (kd2.later hb).cell 0
    simp at y0 z0
    exact ⟨y0, z0⟩)
  have hds : d.name.size ≤ maxLen := by unfold maxLen; omega
  obtain ⟨nu, hnu, hnu2⟩ := bF_num kn _ _ _ _ hF.out (Q.map (·.1)) 1000000000 hkn.out (by simpa using hl)
  have hbd : (bD kn (Q.map (·.1)) d).1 = fun t => if t = d.name then some nu else kn t := by
    unfold bD
    dsimp only
    rw [hnu]
    rfl
  have HBd := hide_ hbd
  have HNu := hide_ hnu
  have HK2 := hide_ hk2
  have KD := hide_ kd2
  have HM2 := hide_ M2
  clear hnu hbd hk2 kd2 M2 kd M1 hB1 D2 hM hN hkn hok hF
  go_enter Tryz.func15, Tryz.ntmps15
  go_upto_region 1 with fail
  rw [← hw1]
  clear hw1
  go_upto_region 2 with fail
  rw [← hw2]
  clear hw2 d2 dz y2
  refine wp_region_last 8 (fun w' => w'.cell? ⟨g, 1, none⟩ = some (.map (some bm)) ∧ w'.cell? ⟨w.heap.size, 0, none⟩ = some (.string d.name)) (by kernel_rfl) (HSS.out _ ((Below.refl w2.heap.size w2).drew)) (fun hHeld => ?_)
  refine wpAnyF_take [8] (by kernel_rfl) (i := 0) (v := ?vd1) rfl (by kernel_rfl) (by kernel_rfl) (by kernel_rfl) (fun _ _ _ h => h) (Or.inl ⟨by kernel_rfl, ?hyd1⟩) hHeld ?restd1
  case hyd1 => intro w' hSw; (try dsimp only at hSw); go_simp; try with_reducible rfl
  simp only [Act.put]
  refine wpAnyF_take [8] (by kernel_rfl) (i := 1) (v := ?vd2) rfl (by kernel_rfl) (by kernel_rfl) (by kernel_rfl) (fun _ _ _ h => h) (Or.inl ⟨by kernel_rfl, ?hyd2⟩) hHeld ?restd2
  case hyd2 => intro w' hSw; (try dsimp only at hSw); go_simp; try with_reducible rfl
  simp only [Act.put]
  refine wpAnyF_take [8] (by kernel_rfl) (i := 2) (v := ?vd3) rfl (by kernel_rfl) (by kernel_rfl) (by kernel_rfl) (fun _ _ _ h => h) (Or.inl ⟨by kernel_rfl, ?hyd3⟩) hHeld ?restd3
  case hyd3 => intro w' hSw; (try dsimp only at hSw); go_simp; try with_reducible rfl
  simp only [Act.put]
  refine wpAnyF_take [8] (by kernel_rfl) (i := 3) (v := ?vd4) rfl (by kernel_rfl) (by kernel_rfl) (by kernel_rfl) (fun _ _ _ h => h) (Or.inl ⟨by kernel_rfl, ?hyd4⟩) hHeld ?restd4
  case hyd4 => intro w' hSw; (try dsimp only at hSw); go_simp; try with_reducible rfl
  simp only [Act.put]
  refine wpAnyF_take [8] (by kernel_rfl) (i := 4) (v := ?vd5) rfl (by kernel_rfl) (by kernel_rfl) (by kernel_rfl) (fun _ _ _ h => h) (Or.inl ⟨by kernel_rfl, ?hyd5⟩) hHeld ?restd5
  case hyd5 => intro w' hSw; (try dsimp only at hSw); go_simp; try with_reducible rfl
  simp only [Act.put]
  refine wpAnyF_take [8] (by kernel_rfl) (i := 5) (v := ?vd6) rfl (by kernel_rfl) (by kernel_rfl) (by kernel_rfl) (fun _ _ _ h => h) (Or.inl ⟨by kernel_rfl, ?hyd6⟩) hHeld ?restd6
  case hyd6 => intro w' hSw; (try dsimp only at hSw); go_simp; try with_reducible rfl
  simp only [Act.put]
  refine wpAnyF_take [8] (by kernel_rfl) (i := 6) (v := ?vd7) rfl (by kernel_rfl) (by kernel_rfl) (by kernel_rfl) (fun _ _ _ h => h) (Or.inl ⟨by kernel_rfl, ?hyd7⟩) hHeld ?restd7
  case hyd7 => intro w' hSw; (try dsimp only at hSw); go_simp; try with_reducible rfl
  simp only [Act.put]
  refine wpAnyF_ready (rs := [7]) (by kernel_rfl) (by simp) ?_
  refine AllReadyF.cons rfl (fun K hK => ?_) AllReadyF.nil
  go_simp
  refine HTn.out.mono ?_
  rintro e w6 ⟨v6, Q6, r6, he, HM6, HR6, HQ6, HK6⟩
  rw [List.append_nil] at he HQ6
  rw [HNu.out] at he
  subst he
  clear HTn
  dsimp only
  have kd6 := HK6.out.blkT (HM2.out.later ((Below.refl w2.heap.size w2).drew)) (KD.out.later ((Below.refl w2.heap.size w2).drew)) (by decide) (by decide)
  have HS6 : Hid ((fun w' => w'.cell? ⟨g, 1, none⟩ = some (.map (some bm)) ∧ w'.cell? ⟨w.heap.size, 0, none⟩ = some (.string d.name)) w6) := hide_ (by
    have y0 := HM6.out.1.cell 1
    have z0 := kd6.cell 0
    simp at y0 z0
    exact ⟨y0, z0⟩)
  obtain ⟨w7, r7, m7, u7⟩ := HM6.out.2.2.1.store d.name hds nu hnu2 (by omega)
  have HR7 := hide_ r7
  have HF : Hid (DfTo w0 g bm nm kn d v Q w (.returned (.tuple #[])) w7) := hide_ ⟨rfl, v6, Q6, r6, ⟨HM6.out.1.upd u7 (fun e => HM6.out.2.2.1.ne HM6.out.1 e.symm), HM6.out.2.1.upd u7 (fun k hk e => by
      obtain ⟨-, -, ys, hy⟩ := HM6.out.own hk
      exact HM6.out.2.2.1.ne hy e.symm) (fun k e => by have := HM6.out.2.2.2.2.2; omega) (fun k ys e hy => HM6.out.2.2.1.ne hy e.symm), by rw [HBd.out]; exact m7, HM6.out.2.2.2.1.trans (u7.below _ HM6.out.size (fun k e => by have := HM6.out.2.2.2.2.2; omega)), HM6.out.2.2.2.2⟩, by rw [HQ6.out]; rfl, by
      have hb := HK2.out.trans (Bkg.pre ((Below.refl w2.heap.size w2).drew) HK6.out)
      exact (hb.1.mono (fun k _ e => by rcases e with e | e; exact .inl e; exact .inr (.inl e))).trans u7 (fun k _ e => .inr (.inr e))⟩
  clear r7 m7 u7 kd6 HM6 HR6 HQ6 HK6
  refine hK.out _ _ (HS6.out) (fun hHeld => ?_)
  clear hK K
  refine wpAnyF_ready (rs := [8]) (by kernel_rfl) (by simp) ?_
  refine AllReadyF.last rfl (fun K hK => ?_)
  have r7 := HR7.out
  go_simp
  refine hK.out _ _ ?_
  clear hK K
  refine wpAnyF_done (by kernel_rfl) ?_ _
  go_wp2_with fail
  go_end0
  exact HF.out
/-! ### rootsOf -/
theorem ROwn.push {w : World} {B : Nat} {v : Value} {l : List Rt} (h : ROwn w B v l) (p : Rt) (hl : l.length ≤ 1000000) (hB : B ≤ w.heap.size) :
    ∃ g cap w', (Builtin.append_ #[27, 27] 27 #[v, .slice (some ⟨w.heap.size, 0, none⟩) 1 1]).run Tryz.prog (w.alloc (.cells #[.string p.name, .int .i64 p.ty] 51)) = .ok (.slice (some ⟨g, 0, none⟩) (l.length + 1) cap) w' ∧ ROwn w' B (.slice (some ⟨g, 0, none⟩) (l.length + 1) cap) (l ++ [p]) ∧ Upd (fun k => v.ownBlock = some k) w w' := by
  obtain ⟨g, cap, w', h1, h2, h3, h4⟩ := run_pushS (P := Tryz.prog) (t := 27) (e := 51) (c := 2) Tryz.underlying27 infoR rfl (by decide) w 27 h (rtc p) rfl (fun u hu => by simp [rtc] at hu; rcases hu with rfl | rfl <;> rfl) (by unfold maxLen; omega) (by omega) hB
  refine ⟨g, cap, w', h1, ?_, h3⟩
  unfold ROwn
  rw [cellsG_app, cellsG_one, List.length_append, List.length_singleton]
  exact h2
theorem rtsP_snoc {D : List Df} {kn : ByteArray → Option Nat} {i : Nat} {d : Df} (h : D[i]? = some d) : (rtsP D kn).take (i + 1) = (rtsP D kn).take i ++ [⟨d.name, (((kn d.name).getD 0 : Nat) : Int)⟩] := by
  have hi := (List.getElem?_eq_some_iff.1 h).1
  have hl : i < (rtsP D kn).length := by simpa [rtsP] using hi
  rw [List.take_succ_eq_append_getElem hl]
  congr 2
  simp only [rtsP, List.getElem_map]
  rw [(List.getElem?_eq_some_iff.1 h).2]
set_option maxRecDepth 100000 in
set_option maxHeartbeats 8000000 in
theorem roots_any (w0 : World) (g bm nm : Nat) (kn : ByteArray → Option Nat) (v : Value) (Q : List (Ty × Value)) (r : Value) (a : Option Addr) (c : Nat) (D : List Df) (w : World) (hD : D.length ≤ 256) (hnm : Hid (∀ d ∈ D, d.name.size ≤ 32)) (hr : Hid (DRow w a D)) (hM : Hid (BdM w0 w g bm nm v Q kn r)) :
    Calls Tryz.prog 16 #[.pointer (some ⟨g, 0, none⟩), .agg #[.slice a D.length c]] w fun e w' => ∃ x n q, e = .returned (.slice x n q) ∧ Hid (ROwn w' w.heap.size (.slice x n q) (rtsP D kn)) ∧ Hid (Below w.heap.size w w') := by
  obtain ⟨w1, hw1⟩ : ∃ wx, wx = w.alloc (.cells #[.slice a D.length c] 24) := ⟨_, rfl⟩
  have hB1 : Below w.heap.size w w1 := by rw [hw1]; exact below1 _ _
  have ks : Blk w1 w.heap.size 24 [.slice a D.length c] := by rw [hw1]; exact Blk.newA w _ _
  have HB1 := hide_ hB1
  have s0 := ks.cell 0
  simp at s0
  have hlr : (rtsP D kn).length = D.length := by simp [rtsP]
  clear hB1 ks
  go_enter Tryz.func16, Tryz.ntmps16
  go_upto_region 1 with fail
  rw [← hw1]
  clear hw1
  go_wp2_with fail
  go_loopw [5, 11] (fun x5 x11 wr => ∃ (i : Nat) (x : Option Addr) (n q : Nat), i ≤ D.length ∧ x11 = .int .i64 (i : Int) ∧ x5 = .slice x n q ∧ Hid (ROwn wr w.heap.size (.slice x n q) ((rtsP D kn).take i)) ∧ Hid (Below w.heap.size w wr)) (fun _ x11 _ => D.length - (intOf x11).toNat)
  case atStart => exact ⟨0, none, 0, 0, Nat.zero_le _, rfl, rfl, hide_ (by rw [List.take_zero]; exact World.ownsRow_nil _ _ _ _), HB1⟩
  case round =>
    obtain ⟨i, x, n, q, hi, rfl, rfl, HO, HB⟩ := hrel
    generalize wr = wq at *
    clear HB1
    by_cases hlt : i < D.length
    · have hlt' : (i : Int) < (D.length : Int) := by omega
      obtain ⟨b, o, rfl, hb, hc⟩ := (hr.out.later HB.out).open (by omega)
      have hx : D[i]? = some (D[i]'hlt) := List.getElem?_eq_getElem hlt
      have hdn := hnm.out _ (List.getElem_mem hlt)
      obtain ⟨va, vc, hcx, hvc, -, hN⟩ := hc i _ hx
      generalize D[i]'hlt = d at *
      have i0 := hcx 0 (by decide); have i1 := hcx 1 (by decide); have i2 := hcx 2 (by decide)
      simp [dfc] at i0 i1 i2
      have hsn := rtsP_snoc (kn := kn) hx
      clear hc hx hcx
      obtain ⟨w2, hw2⟩ : ∃ wx, wx = wq.alloc (.cells #[.string d.name, .int .i64 d.a, .slice va d.ty.length vc] 38) := ⟨_, rfl⟩
      have hB2 : Below wq.heap.size wq w2 := by rw [hw2]; exact below1 _ _
      have kd : Blk w2 wq.heap.size 38 [.string d.name, .int .i64 d.a, .slice va d.ty.length vc] := by rw [hw2]; exact Blk.newA wq _ _
      have M2 := hM.out.later (below_to HB.out hB2)
      have hds : d.name.size ≤ maxLen := by unfold maxLen; omega
      have HSS : Hid (∀ w', Below w2.heap.size w2 w' → (fun w' => w'.cell? ⟨g, 1, none⟩ = some (.map (some bm)) ∧ w'.cell? ⟨wq.heap.size, 0, none⟩ = some (.string d.name) ∧ (Instr.lookup 61 (.map (some bm)) (.string d.name) false).run Tryz.prog w' = .ok (.int .i64 (((kn d.name).getD 0 : Nat) : Int)) w') w') := hide_ (fun w' hb => by
        have y0 := (M2.later hb).1.cell 1
        have z0 := (kd.later hb).cell 0
        simp at y0 z0
        exact ⟨y0, z0, (M2.later hb).2.2.1.look d.name hds⟩)
      have HCl := hide_ (clone_any d.name w2.drew (by omega))
      have HM2 := hide_ M2
      have HB2 := hide_ (below_to HB.out hB2)
      have HO2 : Hid (ROwn w2 w.heap.size (.slice x n q) ((rtsP D kn).take i)) := hide_ (ROwn.later HO.out hB2)
      have KD := hide_ kd
      have Hsn := hide_ hsn
      have hti : ((rtsP D kn).take i).length = i := by rw [List.length_take, hlr]; omega
      clear M2 hB2 kd hsn hN HO HB
      go_upto_region 5 with fail
      rw [← hw2]
      clear hw2 i0 i1 i2
      refine wp_region_last 14 (fun w' => w'.cell? ⟨g, 1, none⟩ = some (.map (some bm)) ∧ w'.cell? ⟨wq.heap.size, 0, none⟩ = some (.string d.name) ∧ (Instr.lookup 61 (.map (some bm)) (.string d.name) false).run Tryz.prog w' = .ok (.int .i64 (((kn d.name).getD 0 : Nat) : Int)) w') (by kernel_rfl) (HSS.out _ ((Below.refl w2.heap.size w2).drew)) (fun hHeld => ?_)
      refine wpAnyF_take [14] (by kernel_rfl) (i := 0) (v := ?vr1) rfl (by kernel_rfl) (by kernel_rfl) (by kernel_rfl) (fun _ _ _ h => h) (Or.inl ⟨by kernel_rfl, ?hyr1⟩) hHeld ?restr1
      case hyr1 => intro w' hSw; (try dsimp only at hSw); go_simp; try with_reducible rfl
      simp only [Act.put]
      refine wpAnyF_take [14] (by kernel_rfl) (i := 1) (v := ?vr2) rfl (by kernel_rfl) (by kernel_rfl) (by kernel_rfl) (fun _ _ _ h => h) (Or.inl ⟨by kernel_rfl, ?hyr2⟩) hHeld ?restr2
      case hyr2 => intro w' hSw; (try dsimp only at hSw); go_simp; try with_reducible rfl
      simp only [Act.put]
      refine wpAnyF_take [14] (by kernel_rfl) (i := 2) (v := ?vr3) rfl (by kernel_rfl) (by kernel_rfl) (by kernel_rfl) (fun _ _ _ h => h) (Or.inl ⟨by kernel_rfl, ?hyr3⟩) hHeld ?restr3
      case hyr3 => intro w' hSw; (try dsimp only at hSw); go_simp; try with_reducible rfl
      simp only [Act.put]
      refine wpAnyF_take [14] (by kernel_rfl) (i := 4) (v := ?vr4) rfl (by kernel_rfl) (by kernel_rfl) (by kernel_rfl) (fun _ _ _ h => h) (Or.inl ⟨by kernel_rfl, ?hyr4⟩) hHeld ?restr4
      case hyr4 => intro w' hSw; (try dsimp only at hSw); go_simp; try with_reducible rfl
      simp only [Act.put]
      refine wpAnyF_take [14] (by kernel_rfl) (i := 5) (v := ?vr5) rfl (by kernel_rfl) (by kernel_rfl) (by kernel_rfl) (fun _ _ _ h => h) (Or.inl ⟨by kernel_rfl, ?hyr5⟩) hHeld ?restr5
      case hyr5 => intro w' hSw; (try dsimp only at hSw); go_simp; try with_reducible rfl
      simp only [Act.put]
      refine wpAnyF_take [14] (by kernel_rfl) (i := 6) (v := ?vr6) rfl (by kernel_rfl) (by kernel_rfl) (by kernel_rfl) (fun _ _ _ h => h) (Or.inl ⟨by kernel_rfl, ?hyr6⟩) hHeld ?restr6
      case hyr6 => intro w' hSw; (try dsimp only at hSw); go_simp; try with_reducible rfl
      simp only [Act.put]
      refine wpAnyF_take [14] (by kernel_rfl) (i := 7) (v := ?vr7) rfl (by kernel_rfl) (by kernel_rfl) (by kernel_rfl) (fun _ _ _ h => h) (Or.inl ⟨by kernel_rfl, ?hyr7⟩) hHeld ?restr7
      case hyr7 => intro w' hSw; (try dsimp only at hSw); go_simp; try with_reducible rfl
      simp only [Act.put]
      refine wpAnyF_take [14] (by kernel_rfl) (i := 8) (v := ?vr8) rfl (by kernel_rfl) (by kernel_rfl) (by kernel_rfl) (fun _ _ _ h => h) (Or.inl ⟨by kernel_rfl, ?hyr8⟩) hHeld ?restr8
      case hyr8 => intro w' hSw; (try dsimp only at hSw); go_simp; try with_reducible rfl
      simp only [Act.put]
      refine wpAnyF_take [14] (by kernel_rfl) (i := 9) (v := ?vr9) rfl (by kernel_rfl) (by kernel_rfl) (by kernel_rfl) (fun _ _ _ h => h) (Or.inl ⟨by kernel_rfl, ?hyr9⟩) hHeld ?restr9
      case hyr9 => intro w' hSw; (try dsimp only at hSw); go_simp; try with_reducible rfl
      simp only [Act.put]
      refine wpAnyF_take [14] (by kernel_rfl) (i := 10) (v := ?vr10) rfl (by kernel_rfl) (by kernel_rfl) (by kernel_rfl) (fun _ _ _ h => h) (Or.inl ⟨by kernel_rfl, ?hyr10⟩) hHeld ?restr10
      case hyr10 => intro w' hSw; (try dsimp only at hSw); go_simp; try with_reducible rfl
      simp only [Act.put]
      refine wpAnyF_ready (rs := [3]) (by kernel_rfl) (by simp) ?_
      refine AllReadyF.cons rfl (fun K hK => ?_) AllReadyF.nil
      go_simp
      refine HCl.out.mono ?_
      rintro e w5 ⟨rfl, hB5⟩
      dsimp only
      have hb5 : Below w2.heap.size w2 w5 := below_to ((Below.refl w2.heap.size w2).drew) hB5
      have HB5 := hide_ hb5
      have hO5 : ROwn w5 w.heap.size (.slice x n q) ((rtsP D kn).take i) := ROwn.later HO2.out hb5
      obtain ⟨g7, c7, w7, r7, p7, u7⟩ := hO5.push (⟨d.name, (((kn d.name).getD 0 : Nat) : Int)⟩ : Rt) (by omega) (Nat.le_trans HB2.out.size hb5.size)
      rw [← Hsn.out, hti] at p7
      rw [hti] at r7
      have hB7 : Below w.heap.size w w7 := (below_to HB2.out hb5).trans (u7.below _ (below_to HB2.out hb5).size (fun k e => (World.ownsRow.lt hO5 k e).1))
      have hq : ∀ k t ys, Blk w5 k t ys → t ≠ 51 → ¬ (Value.slice x n q).ownBlock = some k := fun k t ys hk ht e => by
        obtain ⟨zs, hz⟩ := ownS_type hO5 e
        exact ht (blk_type hk hz)
      have HS7 : Hid ((fun w' => w'.cell? ⟨g, 1, none⟩ = some (.map (some bm)) ∧ w'.cell? ⟨wq.heap.size, 0, none⟩ = some (.string d.name) ∧ (Instr.lookup 61 (.map (some bm)) (.string d.name) false).run Tryz.prog w' = .ok (.int .i64 (((kn d.name).getD 0 : Nat) : Int)) w') w7) := hide_ (by
        have m5 := HM2.out.later hb5
        have y0 := (m5.1.upd u7 (hq _ _ _ m5.1 (by decide))).cell 1
        have z0 := ((KD.out.later hb5).upd u7 (hq _ _ _ (KD.out.later hb5) (by decide))).cell 0
        simp at y0 z0
        exact ⟨y0, z0, (m5.2.2.1.upd u7 (fun e => by
          obtain ⟨zs, hz⟩ := ownS_type hO5 e
          exact m5.2.2.1.ne hz rfl)).look d.name hds⟩)
      have HR7 := hide_ r7
      have HP7 := hide_ p7
      have HB7 := hide_ hB7
      clear r7 p7 u7 hq hB7 hO5 hb5 hB5 HCl
      refine hK.out _ _ (HSS.out _ HB5.out) (fun hHeld => ?_)
      clear hK K
      refine wpAnyF_take [14] (by kernel_rfl) (i := 11) (v := ?vr11) rfl (by kernel_rfl) (by kernel_rfl) (by kernel_rfl) (fun _ _ _ h => h) (Or.inl ⟨by kernel_rfl, ?hyr11⟩) hHeld ?restr11
      case hyr11 => intro w' hSw; (try dsimp only at hSw); go_simp; try with_reducible rfl
      simp only [Act.put]
      refine wpAnyF_ready (rs := [12]) (by kernel_rfl) (by simp) ?_
      refine AllReadyF.cons rfl (fun K hK => ?_) AllReadyF.nil
      go_simp
      refine hK.out _ _ (HSS.out _ (below_to HB5.out (below1 w5 _))) (fun hHeld => ?_)
      clear hK K
      refine wpAnyF_ready (rs := [13]) (by kernel_rfl) (by simp) ?_
      refine AllReadyF.cons rfl (fun K hK => ?_) AllReadyF.nil
      refine step_append_run rfl (.tmp 15) (.tmp 27) 27 27 rfl (v := .slice x n q) (u := .slice (some ⟨w5.heap.size, 0, none⟩) 1 1) (by kernel_rfl) (by kernel_rfl) HR7.out ?_
      simp only [Act.put]
      refine hK.out _ _ (HS7.out) (fun hHeld => ?_)
      clear hK K
      refine wpAnyF_ready (rs := [14]) (by kernel_rfl) (by simp) ?_
      refine AllReadyF.last rfl (fun K hK => ?_)
      go_simp
      refine hK.out _ _ ?_
      clear hK K
      refine wpAnyF_done (by kernel_rfl) ?_ _
      clear HSS HS7 HR7
      go_wp2_with fail
      go_roundw
      case rel => exact ⟨i + 1, _, _, _, by omega, by go_num, rfl, HP7, HB7⟩
      case measure => simp [intOf]; omega
    · obtain rfl : i = D.length := by omega
      have hlt' : ¬ ((D.length : Int) < (D.length : Int)) := by omega
      go_wp2_with fail
      go_ret
      refine ⟨x, n, q, rfl, ?_, HB⟩
      have h := HO.out
      rw [← hlr, List.take_length] at h
      exact hide_ h
end Go.Proofs.YtbgjgbddpcofcaaGreatDoor
