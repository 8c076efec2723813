/- depthsOf. -/
import Derived.Test.YtjeafblkmipdmaaYk
namespace Go.Proofs.Ytjeafblkmipdmaa
open Go.RowKit
set_option linter.unusedVariables false

/-- The depths of the first i of an order are right. -/
def DepP (D : List Df) (o : List Nat) (i : Nat) (ds : List Int) : Prop := ds.length = D.length ∧ ∀ k ∈ o.take i, ∀ d, D[k]? = some d → ds.getD k 0 = hgt (depF D ds) d.ty
theorem depF_set {D : List Df} {ds : List Int} {m : Nat} {v : Int} {s : ByteArray} (h : numZ D s ≠ m) : depF D (ds.set m v) s = depF D ds s := by
  unfold depF
  rw [getD_set_ne _ _ _ _ (fun e => h e.symm)]
theorem DepP.step {D : List Df} {o : List Nat} {i m : Nat} {ds : List Int} {d : Df} (h : DepP D o i ds) (hO : Ordr (usD D) o) (hm : o[i]? = some m) (hd : D[m]? = some d) : DepP D o (i + 1) (ds.set m (hgt (depF D ds) d.ty)) := by
  obtain ⟨h1, h2⟩ := h
  have hml : m < D.length := (List.getElem?_eq_some_iff.1 hd).1
  obtain ⟨-, ⟨hm1, hm2⟩, -⟩ := hO i m hm
  have key : ∀ k d', (∀ u ∈ us (usD D) k, u ∈ o.take i) → D[k]? = some d' → hgt (depF D (ds.set m (hgt (depF D ds) d.ty))) d'.ty = hgt (depF D ds) d'.ty := by
    intro k d' hu hd'
    refine hgt_congr fun x hx h9 => depF_set (fun e => hm1 ?_)
    rw [← e]
    exact hu _ (by rw [us_usD hd']; exact mem_usT.2 ⟨x, hx, h9, rfl⟩)
  refine ⟨by rw [List.length_set]; exact h1, fun k hk d' hd' => ?_⟩
  rcases take_mem hm hk with hk | rfl
  · have hne : m ≠ k := fun e => hm1 (e ▸ hk)
    rw [getD_set_ne _ _ _ _ hne, h2 k hk d' hd']
    refine (key k d' (fun u hu => ?_) hd').symm
    obtain ⟨j, hj, e⟩ := List.getElem_of_mem hk
    rw [List.length_take] at hj
    rw [List.getElem_take] at e
    obtain ⟨j2, hj2, e2⟩ := hO.at_mem (i := j) (by rw [← e]; exact List.getElem?_eq_getElem _) hu
    refine List.mem_iff_getElem?.2 ⟨j2, ?_⟩
    rw [List.getElem?_take, if_pos (by omega)]
    exact e2
  · rw [hd] at hd'
    simp only [Option.some.injEq] at hd'
    subst hd'
    rw [getD_set_eq _ _ _ (by omega)]
    exact (key k d hm2 hd).symm
theorem DepP.all {D : List Df} {o : List Nat} {ds : List Int} (h : DepP D o o.length ds) (hO : Ordr (usD D) o) (hl : o.length = D.length) : DepR D ds := by
  refine ⟨h.1, fun i d hd => h.2 i ?_ d hd⟩
  rw [List.take_length]
  exact hO.all (by rw [hl, usD_len]) (by rw [usD_len]; exact (List.getElem?_eq_some_iff.1 hd).1)
theorem Stck.cells {w : World} {g cap : Nat} {o : List Nat} {ys : List Value} (h : Stck w g cap (natI o) ys) {i m : Nat} (hm : o[i]? = some m) : w.cell? ⟨g, i, none⟩ = some (.int .i64 (m : Int)) := by
  obtain ⟨h1, h2, h3, h4, h5⟩ := h
  have hi := (List.getElem?_eq_some_iff.1 hm).1
  rw [h1.cell]
  have := congrArg (fun l => l[i]?) h5
  simp only [List.getElem?_take, natI_len] at this
  rw [if_pos hi, cellsL_at _ _ i (by rw [natI_len]; exact hi), natI_at _ _ _ hm] at this
  exact this
set_option maxRecDepth 100000 in
set_option maxHeartbeats 8000000 in
theorem depths_any (a : Option Addr) (c : Nat) (D : List Df) (bn go cap : Nat) (ys : List Value) (o : List Nat) (w : World) (hD : D.length ≤ 256) (hok : Hid (∀ d ∈ D, DfOk1 d)) (r : Hid (DRow w a D)) (hM : Hid (MpS w bn 256 (numN D))) (hO : Hid (Ordr (usD D) o)) (hol : Hid (o.length = D.length)) (hS : Hid (Stck w go cap (natI o) ys)) :
    Calls Try.prog 22 #[.agg #[.slice a D.length c], .map (some bn), .slice (some ⟨go, 0, none⟩) o.length cap] w fun e w' => ∃ g ds, e = .returned (.slice (some ⟨g, 0, none⟩) D.length D.length) ∧ w.heap.size ≤ g ∧ Hid (Blk w' g 3 (cellsL .i64 ds)) ∧ Hid (DepR D ds) ∧ Hid (InB ds 1000000000000000) ∧ Hid (Below w.heap.size w w') := by
  have hmf : ∀ (fn : Fn) (first cap : Array Value) (w : World), (Instr.makeFunc fn first cap).run Try.prog w = .ok (.func fn first cap) w := fun _ _ _ _ => rfl
  have hmk := run_make_row' (P := Try.prog) 32 3 (.int .i64 0) 8 Try.underlying32 (by kernel_rfl) rfl .i64 .i64 D.length (by omega) (by omega)
  obtain ⟨w1, hw1⟩ : ∃ w1, w1 = (w.alloc (.cells #[.slice a D.length c] 24)).alloc (.cells #[.map (some bn)] 58) := ⟨_, rfl⟩
  have HB1 : Hid (Below w.heap.size w w1) := by rw [hw1]; exact ((Below.refl _ _).alloc (Nat.le_refl _) _).alloc (by simp) _
  have hz1 : w1.heap.size = w.heap.size + 1 + 1 := by rw [hw1]; simp
  have k3 : Blk w1 w.heap.size 24 [.slice a D.length c] := by rw [hw1]; exact (Blk.newA w #[.slice a D.length c] 24).alloc _
  have k4 : Blk w1 (w.heap.size + 1) 58 [.map (some bn)] := by
    have h := Blk.newA (w.alloc (.cells #[.slice a D.length c] 24)) #[.map (some bn)] 58
    rw [← hw1, World.size_alloc] at h
    exact h
  obtain ⟨w2, hw2⟩ : ∃ w2, w2 = (w1.alloc (.cells (madeCells #[.int .i64 0] D.length) 3)).alloc (.cells #[.slice (some ⟨w1.heap.size, 0, none⟩) D.length D.length] 32) := ⟨_, rfl⟩
  have hB2 : Below w1.heap.size w1 w2 := by rw [hw2]; exact ((Below.refl _ _).alloc (Nat.le_refl _) _).alloc (by simp) _
  have HB2 := hide_ (below_to HB1.out hB2)
  have K3 := hide_ (k3.later hB2)
  have K4 := hide_ (k4.later hB2)
  have K5 : Hid (Blk w2 w1.heap.size 3 (cellsL .i64 (List.replicate D.length 0))) := hide_ (by
    have h := (Blk.newA w1 (madeCells #[.int .i64 0] D.length) 3).alloc (.cells #[.slice (some ⟨w1.heap.size, 0, none⟩) D.length D.length] 32)
    rw [toList_madeCells_one, ← hw2] at h
    rw [cellsL, List.map_replicate]
    exact h)
  have K7 : Hid (Blk w2 (w1.heap.size + 1) 32 [.slice (some ⟨w1.heap.size, 0, none⟩) D.length D.length]) := hide_ (by
    have h := Blk.newA (w1.alloc (.cells (madeCells #[.int .i64 0] D.length) 3)) #[.slice (some ⟨w1.heap.size, 0, none⟩) D.length D.length] 32
    rw [← hw2, World.size_alloc] at h
    exact h)
  have c0 := k3.cell 0
  simp at c0
  have hgo : go < w.heap.size := hS.out.1.lt
  have HZ1 := hide_ hz1
  have e1 : (w.alloc (.cells #[.slice a D.length c] 24)).alloc (.cells #[.map (some bn)] 58) = w1 := hw1.symm
  clear k3 k4 hB2 hw1 hz1
  go_enter Try.func22, Try.ntmps22
  go_upto_region 1 with fail
  clear e1
  go_upto_region 2 with fail
  rw [← hw2]
  clear hw2 hmk c0
  go_wp2_with fail
  go_loopw [16] (fun x16 wr => ∃ (i : Nat) (ds : List Int), i ≤ o.length ∧ x16 = .int .i64 (i : Int) ∧ Hid (Blk wr w.heap.size 24 [.slice a D.length c]) ∧ Hid (Blk wr (w.heap.size + 1) 58 [.map (some bn)]) ∧ Hid (Blk wr w1.heap.size 3 (cellsL .i64 ds)) ∧ Hid (Blk wr (w1.heap.size + 1) 32 [.slice (some ⟨w1.heap.size, 0, none⟩) D.length D.length]) ∧ Hid (DepP D o i ds) ∧ Hid (InB ds ((i : Int) * 1954687338269)) ∧ Hid (Below w.heap.size w wr)) (fun x16 _ => o.length - (intOf x16).toNat)
  case atStart => exact ⟨0, List.replicate D.length 0, Nat.zero_le _, rfl, K3, K4, K5, K7, hide_ ⟨by simp, fun k hk => by simp at hk⟩, hide_ (fun i => by rw [List.getD_eq_getElem?_getD, List.getElem?_replicate]; split <;> simp), HB2⟩
  case round =>
    obtain ⟨i, ds, hi, rfl, K3q, K4q, K5q, K7q, HP, HI, HBq⟩ := hrel
    generalize wr = wq at *
    clear K3 K4 K5 K7 HB2 HB1
    have HOL := hol
    have ho256 : o.length ≤ 256 := by rw [hol.out]; exact hD
    by_cases hlt : i < o.length
    · have hlt' : (i : Int) < o.length := by omega
      obtain ⟨m, hm⟩ : ∃ m, o[i]? = some m := ⟨_, List.getElem?_eq_getElem hlt⟩
      have hml : m < D.length := by have := (hO.out i m hm).1; rw [usD_len] at this; exact this
      have hml' : (m : Int) < D.length := by omega
      have cO := (hS.out.later HBq.out).cells hm
      obtain ⟨d, hd⟩ : ∃ d, D[m]? = some d := ⟨_, List.getElem?_eq_getElem hml⟩
      have hdk := hok.out d (List.mem_of_getElem? hd)
      obtain ⟨b, off, rfl, hb, hcl⟩ := r.out.open (by omega)
      obtain ⟨va, vc, hcx, hvc, -, hN⟩ := hcl m d hd
      have h2 := hcx 2 (by decide)
      simp [dfc] at h2
      have HSS : Hid (∀ w', Below w.heap.size w w' → Blk w' (w1.heap.size + 1) 32 [.slice (some ⟨w1.heap.size, 0, none⟩) D.length D.length] → Blk w' w.heap.size 24 [.slice (some ⟨b, off, none⟩) D.length c] → (fun w' => w'.cell? ⟨w1.heap.size + 1, 0, none⟩ = some (.slice (some ⟨w1.heap.size, 0, none⟩) D.length D.length) ∧ w'.cell? ⟨w.heap.size, 0, none⟩ = some (.slice (some ⟨b, off, none⟩) D.length c) ∧ w'.cell? ⟨b, off + m * 3 + 2, none⟩ = some (.slice va d.ty.length vc)) w') := hide_ (fun w' h k7 k3 => ⟨k7.cell 0, k3.cell 0, (h.cell (p := ⟨b, off + m * 3 + 2, none⟩) hb).trans h2⟩)
      obtain ⟨v, hv⟩ : ∃ v, hgt (depF D ds) d.ty = v := ⟨_, rfl⟩
      have hmul : (i : Int) * 1954687338269 ≤ 256 * 1954687338269 := Int.mul_le_mul_of_nonneg_right (by omega) (by decide)
      have HCon := depthOf_any va vc d.ty (w1.heap.size + 1) (w.heap.size + 1) w1.heap.size bn D.length ds D ((i : Int) * 1954687338269) wq.drew hdk.2.1 (by omega) hD ⟨by omega, by omega⟩ (hide_ ((hN.later HBq.out).later ((Below.refl _ _).drew))) hdk.2.2.1 hdk.2.2.2.2 (hide_ ⟨K7q.out, K5q.out, K4q.out, hM.out.later HBq.out.drew, HP.out.1, rfl⟩) HI
      have HP2 := HP.out.step hO.out hm hd
      rw [hv] at HCon HP2
      have HCon := hide_ HCon
      have HP2 := hide_ HP2
      clear hv hcl hcx hN hd hm h2
      go_upto_region 5 with fail
      clear cO
      refine wp_region_held_drew (S := (fun w' => w'.cell? ⟨w1.heap.size + 1, 0, none⟩ = some (.slice (some ⟨w1.heap.size, 0, none⟩) D.length D.length) ∧ w'.cell? ⟨w.heap.size, 0, none⟩ = some (.slice (some ⟨b, off, none⟩) D.length c) ∧ w'.cell? ⟨b, off + m * 3 + 2, none⟩ = some (.slice va d.ty.length vc))) (by kernel_rfl) (HSS.out _ HBq.out.drew K7q.out K3q.out) (fun hHeld => ?_)
      refine wpAnyH_take (i := 0) (v := ?v1) rfl (by kernel_rfl) (by kernel_rfl) (by kernel_rfl) (fun _ _ _ h => h) (Or.inl ⟨by rfl, ?hy1⟩) hHeld ?rest1
      case hy1 => intro w' hSw; (try dsimp only at hSw); go_simp; try with_reducible rfl
      simp only [Act.put]
      refine wpAnyH_take (i := 1) (v := ?v2) rfl (by kernel_rfl) (by kernel_rfl) (by kernel_rfl) (fun _ _ _ h => h) (Or.inl ⟨by rfl, ?hy2⟩) hHeld ?rest2
      case hy2 => intro w' hSw; (try dsimp only at hSw); go_simp; try with_reducible rfl
      simp only [Act.put]
      refine wpAnyH_take (i := 2) (v := ?v3) rfl (by kernel_rfl) (by kernel_rfl) (by kernel_rfl) (fun _ _ _ h => h) (Or.inl ⟨by rfl, ?hy3⟩) hHeld ?rest3
      case hy3 => intro w' hSw; (try dsimp only at hSw); go_simp; try with_reducible rfl
      simp only [Act.put]
      refine wpAnyH_take (i := 3) (v := ?v4) rfl (by kernel_rfl) (by kernel_rfl) (by kernel_rfl) (fun _ _ _ h => h) (Or.inl ⟨by rfl, ?hy4⟩) hHeld ?rest4
      case hy4 => intro w' hSw; (try dsimp only at hSw); go_simp; try with_reducible rfl
      simp only [Act.put]
      refine wpAnyH_take (i := 4) (v := ?v5) rfl (by kernel_rfl) (by kernel_rfl) (by kernel_rfl) (fun _ _ _ h => h) (Or.inl ⟨by rfl, ?hy5⟩) hHeld ?rest5
      case hy5 => intro w' hSw; (try dsimp only at hSw); go_simp; try with_reducible rfl
      simp only [Act.put]
      refine wpAnyH_take (i := 5) (v := ?v6) rfl (by kernel_rfl) (by kernel_rfl) (by kernel_rfl) (fun _ _ _ h => h) (Or.inl ⟨by rfl, ?hy6⟩) hHeld ?rest6
      case hy6 => intro w' hSw; (try dsimp only at hSw); go_simp; try with_reducible rfl
      simp only [Act.put]
      refine wpAnyH_take (i := 6) (v := ?v7) rfl (by kernel_rfl) (by kernel_rfl) (by kernel_rfl) (fun _ _ _ h => h) (Or.inl ⟨by rfl, ?hy7⟩) hHeld ?rest7
      case hy7 => intro w' hSw; (try dsimp only at hSw); go_simp; try with_reducible rfl
      simp only [Act.put]
      refine wpAnyH_take (i := 7) (v := ?v8) rfl (by kernel_rfl) (by kernel_rfl) (by kernel_rfl) (fun _ _ _ h => h) (Or.inl ⟨by rfl, ?hy8⟩) hHeld ?rest8
      case hy8 => intro w' hSw; (try dsimp only at hSw); go_simp; try with_reducible rfl
      simp only [Act.put]
      refine wpAnyH_take (i := 8) (v := ?v9) rfl (by kernel_rfl) (by kernel_rfl) (by kernel_rfl) (fun _ _ _ h => h) (Or.inl ⟨by rfl, ?hy9⟩) hHeld ?rest9
      case hy9 => intro w' hSw; (try dsimp only at hSw); go_simp; try with_reducible rfl
      simp only [Act.put]
      refine wpAnyH_ready (rs := [9]) (by kernel_rfl) (by simp) ?_
      refine AllReadyH.cons rfl (fun K hK => ?_) AllReadyH.nil
      go_simp
      refine (HCon.out).mono ?_
      rintro e w5 ⟨rfl, HE5, HB5⟩
      dsimp only
      have hB5 : Below wq.heap.size wq w5 := ⟨HB5.out.os, HB5.out.tape, HB5.out.output, HB5.out.size, HB5.out.block⟩
      have K7a := hide_ (K7q.out.later hB5)
      have K3a := hide_ (K3q.out.later hB5)
      have K4a := hide_ (K4q.out.later hB5)
      have K5a := hide_ (K5q.out.later hB5)
      have HB5a := hide_ (below_to HBq.out hB5)
      obtain ⟨u5, c5⟩ : ∃ u5 : Int, w5.cell? ⟨w1.heap.size, m, none⟩ = some (.int .i64 u5) := ⟨_, (K5a.out.cell m).trans (cellsL_at .i64 ds m (by have := HP.out.1; omega))⟩
      have f5 := K5a.out.frozen m
      have us5 : Upd (fun k => k = w1.heap.size) w5 (w5.setCell ⟨w1.heap.size, m, none⟩ (.int .i64 v)) := (Upd.refl _ _).set _ _ (.inl rfl)
      have K5b : Hid (Blk (w5.setCell ⟨w1.heap.size, m, none⟩ (.int .i64 v)) w1.heap.size 3 (cellsL .i64 (ds.set m v))) := hide_ (by rw [← cellsL_set]; exact K5a.out.set m _)
      have hz := HZ1.out
      have K7b := hide_ (K7a.out.upd us5 (by omega))
      have K3b := hide_ (K3a.out.upd us5 (by omega))
      have K4b := hide_ (K4a.out.upd us5 (by omega))
      have HB5b := hide_ (HB5a.out.trans (us5.below w.heap.size HB5a.out.size (fun k hk => by omega)))
      obtain ⟨w6, hw6⟩ : ∃ w6, w6 = w5.setCell ⟨w1.heap.size, m, none⟩ (.int .i64 v) := ⟨_, rfl⟩
      rw [← hw6] at K5b K7b K3b K4b HB5b
      clear us5 hz
      refine hK.out _ _ (HSS.out _ HB5a.out K7a.out K3a.out) (fun hHeld => ?_)
      clear hK K
      refine wpAnyH_take (i := 10) (v := ?v10) rfl (by kernel_rfl) (by kernel_rfl) (by kernel_rfl) (fun _ _ _ h => h) (Or.inl ⟨by rfl, ?hy10⟩) hHeld ?rest10
      case hy10 => intro w' hSw; (try dsimp only at hSw); go_simp; try with_reducible rfl
      simp only [Act.put]
      refine wpAnyH_ready (rs := [11]) (by kernel_rfl) (by simp) ?_
      refine AllReadyH.cons rfl (fun K hK => ?_) AllReadyH.nil
      go_simp
      rw [← hw6]
      refine hK.out _ _ (HSS.out _ HB5b.out K7b.out K3b.out) (fun hHeld => ?_)
      clear hK K
      refine wpAnyH_done (by kernel_rfl) ?_ _
      clear hw6 c5 f5
      go_wp2_with fail
      go_roundw
      case rel => exact ⟨i + 1, ds.set m v, by omega, by go_num, K3b, K4b, K5b, K7b, HP2, hide_ (by
        have h := HE5.out
        refine InB.set (HI.out.mono (by omega)) m v h.1 (by omega)), HB5b⟩
      case measure => simp [intOf]; omega
    · obtain rfl : i = o.length := by omega
      have c7 := K7q.out.cell 0
      simp at c7
      go_wp2
      go_ret
      refine ⟨w1.heap.size, ds, rfl, by have := HZ1.out; omega, K5q, hide_ (HP.out.all hO.out HOL.out), hide_ (HI.out.mono ?_), HBq⟩
      have hmul : (o.length : Int) * 1954687338269 ≤ 256 * 1954687338269 := Int.mul_le_mul_of_nonneg_right (by omega) (by decide)
      omega
end Go.Proofs.Ytjeafblkmipdmaa
