/- typing.pushKids: unions, and all kinds. -/
import Derived.Test.YtlfjcihhcphjkaaDoorOg
import Derived.Deep.RegionLaw
namespace Go.Proofs.YtlfjcihhcphjkaaDoor
open Go.RowKit
set_option linter.unusedVariables false

set_option maxRecDepth 100000 in
set_option maxHeartbeats 4000000 in
theorem pushU_any (v : Value) (L : List Int) (B : Nat) (n el : Int) (ps : List Pt) (va : Option Addr) (vc : Nat) (xk xn xd : Int) (m : Nat) (p : Pt) (w : World) (hm : armI ps xn = some m) (hp : ps[m]? = some p) (hps : ps.length ≤ 64) (htg : Hid (∀ p ∈ ps, 0 ≤ p.tag ∧ p.tag ≤ 255)) (hL : L.length ≤ 10000000) (hB : B ≤ w.heap.size) (ho : Hid (IOwn w B v L)) (hr : Hid (PRow w va ps)) (hlow : ∀ y, va = some y → y.block < B) :
    Calls Tryd.prog 32 #[v, .agg #[.int .i64 7, .int .i64 n, .int .i64 el, .slice va ps.length vc], .agg #[.int .i64 xk, .int .u64 xn, .int .i64 xd]] w fun e w' => ∃ v', e = .returned v' ∧ Hid (PsTo w B v (L ++ [p.ty]) w' v') := by
  obtain ⟨a0, c0, rfl⟩ := ho.out.slice
  obtain ⟨w1, hw1⟩ : ∃ wx, wx = w.alloc (.cells #[.slice a0 L.length c0] 26) := ⟨_, rfl⟩
  obtain ⟨w2, hw2⟩ : ∃ wx, wx = w1.alloc (.cells #[.int .i64 7, .int .i64 n, .int .i64 el, .slice va ps.length vc] 64) := ⟨_, rfl⟩
  obtain ⟨w3, hw3⟩ : ∃ wx, wx = w2.alloc (.cells #[.int .i64 xk, .int .u64 xn, .int .i64 xd] 49) := ⟨_, rfl⟩
  obtain ⟨hP, hN, hB3, -⟩ := pks_start ho.out 7 n el (.slice va ps.length vc) xk xn xd hw1 hw2 hw3
  have hml := (List.getElem?_eq_some_iff.1 hp).1
  have hml' : (m : Int) < ps.length := by omega
  obtain ⟨b, off, rfl, hb, hc⟩ := (hr.out.later hB3).open (by omega)
  have HP := hide_ hP
  have HR3 := hide_ (hr.out.later hB3)
  have hAr := armT_any 7 n el ps (some ⟨b, off, none⟩) vc xn w3.drew (by omega) htg (hide_ (HR3.out.later ((Below.refl _ _).drew)))
  rw [show armZ ps xn = (m : Int) by unfold armZ; rw [hm]] at hAr
  have HAr := hide_ hAr
  have i0 := hP.ty.cell 0; have i1 := hP.ty.cell 1; have i2 := hP.ty.cell 2; have i3 := hP.ty.cell 3
  have j1 := hN.cell 1
  have s0 := hP.box.cell 0
  have c2 := hc m p hp 2 (by decide)
  simp [ptc] at i0 i1 i2 i3 j1 s0 c2
  have HN := hide_ hN
  have HC2 := hide_ c2
  have hbB : b < B := hlow _ rfl
  clear hP hN hB3 hc hAr hm hp
  go_enter Tryd.func32, Tryd.ntmps32
  go_upto_region 1 with fail
  rw [← hw1, ← hw2, ← hw3]
  clear hw1 hw2 hw3
  have HSS : Hid (∀ w', Upd (fun k => (Value.slice a0 L.length c0).ownBlock = some k) w3 w' → (fun w' => w'.cell? ⟨w.heap.size, 0, none⟩ = some (.slice a0 L.length c0) ∧ w'.cell? ⟨w.heap.size + 1, 0, none⟩ = some (.int .i64 7) ∧ w'.cell? ⟨w.heap.size + 1, 1, none⟩ = some (.int .i64 n) ∧ w'.cell? ⟨w.heap.size + 1, 2, none⟩ = some (.int .i64 el) ∧ w'.cell? ⟨w.heap.size + 1, 3, none⟩ = some (.slice (some ⟨b, off, none⟩) ps.length vc) ∧ w'.cell? ⟨w.heap.size + 2, 1, none⟩ = some (.int .u64 xn) ∧ w'.cell? ⟨b, off + m * 3 + 2, none⟩ = some (.int .i64 p.ty)) w') := hide_ (fun w' hu => by
    have nb : ∀ k t ys, Blk w3 k t ys → t ≠ 3 → ¬ (Value.slice a0 L.length c0).ownBlock = some k := fun k t ys hb ht e => by
      obtain ⟨zs, hz⟩ := ownS_type HP.out.own e
      exact ht (blk_type hb hz)
    have k0 := HP.out.box.upd hu (nb _ _ _ HP.out.box (by decide))
    have k1 := HP.out.ty.upd hu (nb _ _ _ HP.out.ty (by decide))
    have k2 := HN.out.upd hu (nb _ _ _ HN.out (by decide))
    refine ⟨k0.cell 0, k1.cell 0, k1.cell 1, k1.cell 2, k1.cell 3, k2.cell 1, ?_⟩
    refine (World.cell?_of_block (w := w3) (hu.block b hb (fun e => ?_))).trans HC2.out
    have h1 := (World.ownsRow.lt HP.out.own b e).1
    omega)
  clear i0 i1 i2 i3 j1 s0 c2
  have i0 := HP.out.ty.cell 0
  simp at i0
  go_wp2_with fail
  refine wp_region_held_drew (S := (fun w' => w'.cell? ⟨w.heap.size, 0, none⟩ = some (.slice a0 L.length c0) ∧ w'.cell? ⟨w.heap.size + 1, 0, none⟩ = some (.int .i64 7) ∧ w'.cell? ⟨w.heap.size + 1, 1, none⟩ = some (.int .i64 n) ∧ w'.cell? ⟨w.heap.size + 1, 2, none⟩ = some (.int .i64 el) ∧ w'.cell? ⟨w.heap.size + 1, 3, none⟩ = some (.slice (some ⟨b, off, none⟩) ps.length vc) ∧ w'.cell? ⟨w.heap.size + 2, 1, none⟩ = some (.int .u64 xn) ∧ w'.cell? ⟨b, off + m * 3 + 2, none⟩ = some (.int .i64 p.ty))) (by kernel_rfl) (HSS.out _ ((Upd.refl _ w3).drew)) (fun hHeld => ?_)
  refine wpAnyH_take (i := 0) (v := ?vu1) rfl (by kernel_rfl) (by kernel_rfl) (by kernel_rfl) (fun _ _ _ h => h) (Or.inl ⟨by rfl, ?hyu1⟩) hHeld ?restu1
  case hyu1 => intro w' hSw; (try dsimp only at hSw); go_simp; try with_reducible rfl
  simp only [Act.put]
  refine wpAnyH_take (i := 1) (v := ?vu2) rfl (by kernel_rfl) (by kernel_rfl) (by kernel_rfl) (fun _ _ _ h => h) (Or.inl ⟨by rfl, ?hyu2⟩) hHeld ?restu2
  case hyu2 => intro w' hSw; (try dsimp only at hSw); go_simp; try with_reducible rfl
  simp only [Act.put]
  refine wpAnyH_take (i := 2) (v := ?vu3) rfl (by kernel_rfl) (by kernel_rfl) (by kernel_rfl) (fun _ _ _ h => h) (Or.inl ⟨by rfl, ?hyu3⟩) hHeld ?restu3
  case hyu3 => intro w' hSw; (try dsimp only at hSw); go_simp; try with_reducible rfl
  simp only [Act.put]
  refine wpAnyH_take (i := 3) (v := ?vu4) rfl (by kernel_rfl) (by kernel_rfl) (by kernel_rfl) (fun _ _ _ h => h) (Or.inl ⟨by rfl, ?hyu4⟩) hHeld ?restu4
  case hyu4 => intro w' hSw; (try dsimp only at hSw); go_simp; try with_reducible rfl
  simp only [Act.put]
  refine wpAnyH_take (i := 4) (v := ?vu5) rfl (by kernel_rfl) (by kernel_rfl) (by kernel_rfl) (fun _ _ _ h => h) (Or.inl ⟨by rfl, ?hyu5⟩) hHeld ?restu5
  case hyu5 => intro w' hSw; (try dsimp only at hSw); go_simp; try with_reducible rfl
  simp only [Act.put]
  refine wpAnyH_take (i := 5) (v := ?vu6) rfl (by kernel_rfl) (by kernel_rfl) (by kernel_rfl) (fun _ _ _ h => h) (Or.inl ⟨by rfl, ?hyu6⟩) hHeld ?restu6
  case hyu6 => intro w' hSw; (try dsimp only at hSw); go_simp; try with_reducible rfl
  simp only [Act.put]
  refine wpAnyH_ready (rs := [6]) (by kernel_rfl) (by simp) ?_
  refine AllReadyH.cons rfl (fun K hK => ?_) AllReadyH.nil
  go_simp
  refine HAr.out.mono ?_
  rintro e w7 ⟨rfl, hB7⟩
  have HB7 := hide_ (below_to ((Below.refl w3.heap.size w3).drew) hB7)
  clear hB7
  have HP7 := hide_ (HP.out.later HB7.out)
  obtain ⟨g, cap, w8, hrun, hS8, hU8, hL8⟩ := HP7.out.own.push p.ty (by omega) (Nat.le_trans hB HP7.out.upd.size)
  have HRx := hide_ hrun
  have HS8 := hide_ hS8
  have HU8 := hide_ hU8
  have HL8 := hide_ hL8
  have HS7 := HSS.out _ (Upd.of_below HB7.out)
  have HS7a := hide_ (HSS.out _ ((Upd.of_below (S := fun k => (Value.slice a0 L.length c0).ownBlock = some k) HB7.out).alloc (.cells #[.int .i64 p.ty] 3)))
  have HS8s := hide_ (HSS.out _ ((Upd.of_below (S := fun k => (Value.slice a0 L.length c0).ownBlock = some k) HB7.out).to HU8.out))
  clear hrun hS8 hU8 hL8
  dsimp only
  refine hK.out _ _ (HS7) (fun hHeld => ?_)
  clear hK K
  refine wpAnyH_take (i := 7) (v := ?vu7) rfl (by kernel_rfl) (by kernel_rfl) (by kernel_rfl) (fun _ _ _ h => h) (Or.inl ⟨by rfl, ?hyu7⟩) hHeld ?restu7
  case hyu7 => intro w' hSw; (try dsimp only at hSw); go_simp; try with_reducible rfl
  simp only [Act.put]
  refine wpAnyH_take (i := 8) (v := ?vu8) rfl (by kernel_rfl) (by kernel_rfl) (by kernel_rfl) (fun _ _ _ h => h) (Or.inl ⟨by rfl, ?hyu8⟩) hHeld ?restu8
  case hyu8 => intro w' hSw; (try dsimp only at hSw); go_simp; try with_reducible rfl
  simp only [Act.put]
  refine wpAnyH_take (i := 9) (v := ?vu9) rfl (by kernel_rfl) (by kernel_rfl) (by kernel_rfl) (fun _ _ _ h => h) (Or.inl ⟨by rfl, ?hyu9⟩) hHeld ?restu9
  case hyu9 => intro w' hSw; (try dsimp only at hSw); go_simp; try with_reducible rfl
  simp only [Act.put]
  refine wpAnyH_ready (rs := [10]) (by kernel_rfl) (by simp) ?_
  refine AllReadyH.cons rfl (fun K hK => ?_) AllReadyH.nil
  go_simp
  refine hK.out _ _ (HS7a.out) (fun hHeld => ?_)
  clear hK K
  refine wpAnyH_ready (rs := [11]) (by kernel_rfl) (by simp) ?_
  refine AllReadyH.cons rfl (fun K hK => ?_) AllReadyH.nil
  refine step_append_run rfl (.tmp 13) (.tmp 23) 26 26 rfl rfl rfl HRx.out ?_
  refine hK.out _ _ (HS8s.out) (fun hHeld => ?_)
  clear hK K
  refine wpAnyH_ready (rs := [12]) (by kernel_rfl) (by simp) ?_
  refine AllReadyH.cons rfl (fun K hK => ?_) AllReadyH.nil
  go_simp
  refine hK.out _ _ (HS8s.out) (fun hHeld => ?_)
  clear hK K
  refine wpAnyH_done (by kernel_rfl) ?_ _
  clear HS7
  go_wp2
  go_ret
  exact ⟨_, rfl, hide_ ⟨HS8.out, HP7.out.upd.to HU8.out, fun k hk => by
    obtain rfl := own_is hk
    rcases HL8.out with h | h
    · exact .inl h
    · exact .inr (Nat.le_trans HP7.out.upd.size h)⟩⟩
end Go.Proofs.YtlfjcihhcphjkaaDoor
