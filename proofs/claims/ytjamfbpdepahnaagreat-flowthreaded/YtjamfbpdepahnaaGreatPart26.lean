import Derived.Test.YtjamfbpdepahnaaGreatPart24
import Derived.Test.YtjamfbpdepahnaaGreatPart25
namespace Go.Proofs.YtjamfbpdepahnaaGreat
open Go.RowKit
set_option linter.unusedVariables false
set_option linter.unusedSimpArgs false
def putI (w : World) (g : Nat) (x : In) : World := (((w.setCell ⟨g, 0, none⟩ (.int .i64 x.op)).setCell ⟨g, 1, none⟩ (.int .i64 x.a)).setCell ⟨g, 2, none⟩ (.int .i64 x.b)).setCell ⟨g, 3, none⟩ (.int .i64 x.c)
theorem Blk.putI {w : World} {g : Nat} {y : In} (h : Blk w g 37 (inc y)) (x : In) : Blk (Go.Proofs.YtjamfbpdepahnaaGreat.putI w g x) g 37 (inc x) := by
  have := (((h.set 0 (.int .i64 x.op)).set 1 (.int .i64 x.a)).set 2 (.int .i64 x.b)).set 3 (.int .i64 x.c)
  simpa [inc, Go.Proofs.YtjamfbpdepahnaaGreat.putI] using this
theorem Blk.putIo {w : World} {h : Nat} {t : TypeId} {xs : List Value} (k : Blk w h t xs) (g : Nat) (x : In) (e : h ≠ g) : Blk (Go.Proofs.YtjamfbpdepahnaaGreat.putI w g x) h t xs := by
  unfold Go.Proofs.YtjamfbpdepahnaaGreat.putI
  exact (((k.other _ _ e).other _ _ e).other _ _ e).other _ _ e
theorem below_putI {B : Nat} {w w' : World} (h : Below B w w') (g : Nat) (x : In) (hb : B ≤ g) : Below B w (putI w' g x) := by
  unfold putI
  exact below_set (below_set (below_set (below_set h _ _ _ hb) _ _ _ hb) _ _ _ hb) _ _ _ hb
theorem putI_upd {S : Nat → Prop} {a w : World} (h : Upd S a w) (g : Nat) (x : In) (hg : S g ∨ a.heap.size ≤ g) : Upd S a (putI w g x) := by
  unfold putI
  exact (((h.set _ _ hg).set _ _ hg).set _ _ hg).set _ _ hg
theorem putS_upd {S : Nat → Prop} {a w : World} (h : Upd S a w) (g : Nat) (s : St) (hg : S g ∨ a.heap.size ≤ g) : Upd S a (putS w g s) := by
  unfold putS
  exact ((((((h.set _ _ hg).set _ _ hg).set _ _ hg).set _ _ hg).set _ _ hg).set _ _ hg).set _ _ hg
theorem handP_no {enc : Bool} {C : List In} {r : Int} {S : List St} {P : List Int} {k : Nat} {s : St} (h : (handP enc C r S P k s).1 = false) : (handP enc C r S P k s).2 = (S, P) := by
  unfold handP at h ⊢
  split at h
  · cases h
  · rename_i h1
    rw [if_neg h1]
    split at h
    · cases h
    · rename_i h2
      rw [if_neg h2]
def LoTo (w0 : World) (b gs bc oc cc : Nat) (enc : Bool) (C : List In) (r : Int) (R : Int × List St × List Int) (e : Ending) (w' : World) : Prop := ∃ vp', e = .returned (.int .i64 R.1) ∧ LkS w0 w' b gs bc oc cc enc C r R.2.1 R.2.2 vp'
set_option maxRecDepth 100000 in
set_option maxHeartbeats 16000000 in
theorem lookAt_any (w0 : World) (b gs bc oc cc : Nat) (enc : Bool) (C : List In) (r : Int) (S : List St) (P : List Int) (vp : Value) (k : Nat) (w : World) (hk : k < C.length) (hcc : C.length ≤ cc) (hcl : cc ≤ 9223372036854775807) (hC : Hid (CdOk enc C)) (hW : Hid (WIn C)) (hS : Hid (SAll S)) (hN : Hid (Pnd C.length S P)) (hM : Hid (msr S P ≤ 2 * C.length + 2)) (hp : Hid ((stA S k).pl ≠ 0)) (h : Hid (LkS w0 w b gs bc oc cc enc C r S P vp)) :
    Calls Tryz.prog 52 #[.pointer (some ⟨b, 0, none⟩), .int .i64 (k : Int)] w fun e w' => LoTo w0 b gs bc oc cc enc C r (lookP enc C r S P k) e w' := by
  obtain ⟨s, hsA⟩ : ∃ s, stA S k = s := ⟨_, rfl⟩
  have hs : S[k]? = some s := by
    have hl := h.out.len
    rw [List.getElem?_eq_getElem (by omega), ← hsA]; simp [stA, List.getD, show k < S.length by omega]
  have HsA := hide_ hsA
  have HsO : Hid (SOk s) := hide_ (by rw [← hsA]; exact hS.out k)
  have Hpl : Hid (s.pl ≠ 0) := hide_ (by rw [← hsA]; exact hp.out)
  obtain ⟨x, hx⟩ : ∃ x, C[k]? = some x := ⟨_, List.getElem?_eq_getElem hk⟩
  have hxA : inA C k = x := inA_at hx
  have HxA := hide_ hxA
  have Hx : Hid (XOk enc x) := hide_ (by have := hC.out.ok k hk; rw [hxA] at this; exact this)
  obtain ⟨R, hR⟩ : ∃ R, lookP enc C r S P k = R := ⟨_, rfl⟩
  rw [hR]
  unfold lookP at hR
  rw [hsA, hxA] at hR
  have HR := hide_ hR
  have HS1 : Hid (∀ w3, Below w.heap.size w w3 → (fun w' => w'.cell? ⟨b, 1, none⟩ = some (.slice (some ⟨bc, oc, none⟩) C.length cc) ∧ w'.cell? ⟨b, 3, none⟩ = some (.slice (some ⟨gs, 0, none⟩) C.length C.length) ∧ w'.cell? ⟨bc, oc + k * 4, none⟩ = some (.int .i64 x.op) ∧ w'.cell? ⟨bc, oc + k * 4 + 1, none⟩ = some (.int .i64 x.a) ∧ w'.cell? ⟨bc, oc + k * 4 + 2, none⟩ = some (.int .i64 x.b) ∧ w'.cell? ⟨bc, oc + k * 4 + 3, none⟩ = some (.int .i64 x.c) ∧ w'.cell? ⟨gs, k * 7, none⟩ = some (.int .i64 s.pl) ∧ w'.cell? ⟨gs, k * 7 + 1, none⟩ = some (.int .u64 (s.ki : Int)) ∧ w'.cell? ⟨gs, k * 7 + 2, none⟩ = some (.int .i64 s.tb) ∧ w'.cell? ⟨gs, k * 7 + 3, none⟩ = some (.int .i64 s.pa) ∧ w'.cell? ⟨gs, k * 7 + 4, none⟩ = some (.int .i64 s.fr) ∧ w'.cell? ⟨gs, k * 7 + 5, none⟩ = some (.int .i64 s.le) ∧ w'.cell? ⟨gs, k * 7 + 6, none⟩ = some (.bool s.su)) w3) := hide_ (fun w3 hB => by
    have a3 := (h.out.later hB).cells
    have a4 := (h.out.later hB).rd.code.at hx
    have a5 := (h.out.later hB).at hs
    exact ⟨a3.2.1, a3.2.2.2.1, a4.1, a4.2.1, a4.2.2.1, a4.2.2.2, a5⟩)
  have HW : Hid (∀ w3, Below w.heap.size w w3 → Calls Tryz.prog 62 #[.slice (some ⟨bc, oc, none⟩) C.length cc, .int .i64 (k : Int)] w3 fun e w' => ∃ v, e = .returned v ∧ Hid (IOwn w' w3.heap.size v (waysP C k)) ∧ Hid (Below w3.heap.size w3 w')) := hide_ (fun w3 hB => ways_any bc oc cc C k w3 hk hcc hcl hC.out.nc (hide_ (h.out.later hB).rd.code) (hC.out.arm k hk))
  have hkc : (k : Int) < (C.length : Int) := by omega
  clear hR hs hx hxA hsA
  go_enter Tryz.func52, Tryz.ntmps52
  go_upto_region 1 with fail
  go_cut [5, 6, 7] from 10 to 29 (fun x5 x6 x7 wc => ∃ (a5 a6 : Nat) (v : Value) (w3 : World), w3 = wc ∧ x5 = .pointer (some ⟨a5, 0, none⟩) ∧ x6 = .pointer (some ⟨a6, 0, none⟩) ∧ x7 = v ∧ Hid (Below w.heap.size w w3) ∧ Hid (Blk w3 a5 37 (inc x)) ∧ Hid (Blk w3 a6 101 (stc s)) ∧ Hid (IOwn w3 w.heap.size v (waysP C k)) ∧ Hid (w.heap.size ≤ a5) ∧ Hid (w.heap.size ≤ a6))
  case first =>
    refine wp_region_last 24 (fun w' => w'.cell? ⟨b, 1, none⟩ = some (.slice (some ⟨bc, oc, none⟩) C.length cc) ∧ w'.cell? ⟨b, 3, none⟩ = some (.slice (some ⟨gs, 0, none⟩) C.length C.length) ∧ w'.cell? ⟨bc, oc + k * 4, none⟩ = some (.int .i64 x.op) ∧ w'.cell? ⟨bc, oc + k * 4 + 1, none⟩ = some (.int .i64 x.a) ∧ w'.cell? ⟨bc, oc + k * 4 + 2, none⟩ = some (.int .i64 x.b) ∧ w'.cell? ⟨bc, oc + k * 4 + 3, none⟩ = some (.int .i64 x.c) ∧ w'.cell? ⟨gs, k * 7, none⟩ = some (.int .i64 s.pl) ∧ w'.cell? ⟨gs, k * 7 + 1, none⟩ = some (.int .u64 (s.ki : Int)) ∧ w'.cell? ⟨gs, k * 7 + 2, none⟩ = some (.int .i64 s.tb) ∧ w'.cell? ⟨gs, k * 7 + 3, none⟩ = some (.int .i64 s.pa) ∧ w'.cell? ⟨gs, k * 7 + 4, none⟩ = some (.int .i64 s.fr) ∧ w'.cell? ⟨gs, k * 7 + 5, none⟩ = some (.int .i64 s.le) ∧ w'.cell? ⟨gs, k * 7 + 6, none⟩ = some (.bool s.su)) (by kernel_rfl) (HS1.out _ (Below.refl _ _).drew) (fun hHeld => ?_)
    obtain ⟨wz0, hz0⟩ : ∃ wx, w.drew = wx := ⟨_, rfl⟩
    rw [hz0] at hHeld ⊢
    have HBz0 : Hid (Below w.heap.size w wz0) := hide_ (by rw [← hz0]; exact (Below.refl _ _).drew)
    clear hz0
    refine wpAnyF_take [24] (by kernel_rfl) (i := 0) (v := ?vp1) rfl (by kernel_rfl) (by kernel_rfl) (by kernel_rfl) (fun _ _ _ h => h) (Or.inl ⟨by kernel_rfl, ?hyp1⟩) hHeld ?restp1
    case hyp1 => intro w' hSw; (try dsimp only at hSw); go_simp; try with_reducible rfl
    simp only [Act.put]
    try dsimp only
    refine wpAnyF_take [24] (by kernel_rfl) (i := 1) (v := ?vp2) rfl (by kernel_rfl) (by kernel_rfl) (by kernel_rfl) (fun _ _ _ h => h) (Or.inl ⟨by kernel_rfl, ?hyp2⟩) hHeld ?restp2
    case hyp2 => intro w' hSw; (try dsimp only at hSw); go_simp; try with_reducible rfl
    simp only [Act.put]
    try dsimp only
    refine wpAnyF_take [24] (by kernel_rfl) (i := 2) (v := ?vp3) rfl (by kernel_rfl) (by kernel_rfl) (by kernel_rfl) (fun _ _ _ h => h) (Or.inl ⟨by kernel_rfl, ?hyp3⟩) hHeld ?restp3
    case hyp3 => intro w' hSw; (try dsimp only at hSw); go_simp; try with_reducible rfl
    simp only [Act.put]
    try dsimp only
    refine wpAnyF_take [24] (by kernel_rfl) (i := 3) (v := ?vp4) rfl (by kernel_rfl) (by kernel_rfl) (by kernel_rfl) (fun _ _ _ h => h) (Or.inl ⟨by kernel_rfl, ?hyp4⟩) hHeld ?restp4
    case hyp4 => intro w' hSw; (try dsimp only at hSw); go_simp; try with_reducible rfl
    simp only [Act.put]
    try dsimp only
    refine wpAnyF_take [24] (by kernel_rfl) (i := 4) (v := ?vp5) rfl (by kernel_rfl) (by kernel_rfl) (by kernel_rfl) (fun _ _ _ h => h) (Or.inl ⟨by kernel_rfl, ?hyp5⟩) hHeld ?restp5
    case hyp5 => intro w' hSw; (try dsimp only at hSw); go_simp; try with_reducible rfl
    simp only [Act.put]
    try dsimp only
    refine wpAnyF_take [24] (by kernel_rfl) (i := 5) (v := ?vp6) rfl (by kernel_rfl) (by kernel_rfl) (by kernel_rfl) (fun _ _ _ h => h) (Or.inl ⟨by kernel_rfl, ?hyp6⟩) hHeld ?restp6
    case hyp6 => intro w' hSw; (try dsimp only at hSw); go_simp; try with_reducible rfl
    simp only [Act.put]
    try dsimp only
    refine wpAnyF_take [24] (by kernel_rfl) (i := 6) (v := ?vp7) rfl (by kernel_rfl) (by kernel_rfl) (by kernel_rfl) (fun _ _ _ h => h) (Or.inl ⟨by kernel_rfl, ?hyp7⟩) hHeld ?restp7
    case hyp7 => intro w' hSw; (try dsimp only at hSw); go_simp; try with_reducible rfl
    simp only [Act.put]
    try dsimp only
    refine wpAnyF_take [24] (by kernel_rfl) (i := 7) (v := ?vp8) rfl (by kernel_rfl) (by kernel_rfl) (by kernel_rfl) (fun _ _ _ h => h) (Or.inl ⟨by kernel_rfl, ?hyp8⟩) hHeld ?restp8
    case hyp8 => intro w' hSw; (try dsimp only at hSw); go_simp; try with_reducible rfl
    simp only [Act.put]
    try dsimp only
    refine wpAnyF_take [24] (by kernel_rfl) (i := 8) (v := ?vp9) rfl (by kernel_rfl) (by kernel_rfl) (by kernel_rfl) (fun _ _ _ h => h) (Or.inl ⟨by kernel_rfl, ?hyp9⟩) hHeld ?restp9
    case hyp9 => intro w' hSw; (try dsimp only at hSw); go_simp; try with_reducible rfl
    simp only [Act.put]
    try dsimp only
    refine wpAnyF_take [24] (by kernel_rfl) (i := 9) (v := ?vp10) rfl (by kernel_rfl) (by kernel_rfl) (by kernel_rfl) (fun _ _ _ h => h) (Or.inl ⟨by kernel_rfl, ?hyp10⟩) hHeld ?restp10
    case hyp10 => intro w' hSw; (try dsimp only at hSw); go_simp; try with_reducible rfl
    simp only [Act.put]
    try dsimp only
    refine wpAnyF_take [24] (by kernel_rfl) (i := 10) (v := ?vp11) rfl (by kernel_rfl) (by kernel_rfl) (by kernel_rfl) (fun _ _ _ h => h) (Or.inl ⟨by kernel_rfl, ?hyp11⟩) hHeld ?restp11
    case hyp11 => intro w' hSw; (try dsimp only at hSw); go_simp; try with_reducible rfl
    simp only [Act.put]
    try dsimp only
    refine wpAnyF_take [24] (by kernel_rfl) (i := 11) (v := ?vp12) rfl (by kernel_rfl) (by kernel_rfl) (by kernel_rfl) (fun _ _ _ h => h) (Or.inl ⟨by kernel_rfl, ?hyp12⟩) hHeld ?restp12
    case hyp12 => intro w' hSw; (try dsimp only at hSw); go_simp; try with_reducible rfl
    simp only [Act.put]
    try dsimp only
    refine wpAnyF_take [24] (by kernel_rfl) (i := 12) (v := ?vp13) rfl (by kernel_rfl) (by kernel_rfl) (by kernel_rfl) (fun _ _ _ h => h) (Or.inl ⟨by kernel_rfl, ?hyp13⟩) hHeld ?restp13
    case hyp13 => intro w' hSw; (try dsimp only at hSw); go_simp; try with_reducible rfl
    simp only [Act.put]
    try dsimp only
    refine wpAnyF_take [24] (by kernel_rfl) (i := 13) (v := ?vp14) rfl (by kernel_rfl) (by kernel_rfl) (by kernel_rfl) (fun _ _ _ h => h) (Or.inl ⟨by kernel_rfl, ?hyp14⟩) hHeld ?restp14
    case hyp14 => intro w' hSw; (try dsimp only at hSw); go_simp; try with_reducible rfl
    simp only [Act.put]
    try dsimp only
    refine wpAnyF_take [24] (by kernel_rfl) (i := 14) (v := ?vp15) rfl (by kernel_rfl) (by kernel_rfl) (by kernel_rfl) (fun _ _ _ h => h) (Or.inl ⟨by kernel_rfl, ?hyp15⟩) hHeld ?restp15
    case hyp15 => intro w' hSw; (try dsimp only at hSw); go_simp; try with_reducible rfl
    simp only [Act.put]
    try dsimp only
    refine wpAnyF_take [24] (by kernel_rfl) (i := 15) (v := ?vp16) rfl (by kernel_rfl) (by kernel_rfl) (by kernel_rfl) (fun _ _ _ h => h) (Or.inl ⟨by kernel_rfl, ?hyp16⟩) hHeld ?restp16
    case hyp16 => intro w' hSw; (try dsimp only at hSw); go_simp; try with_reducible rfl
    simp only [Act.put]
    try dsimp only
    refine wpAnyF_take [24] (by kernel_rfl) (i := 16) (v := ?vp17) rfl (by kernel_rfl) (by kernel_rfl) (by kernel_rfl) (fun _ _ _ h => h) (Or.inl ⟨by kernel_rfl, ?hyp17⟩) hHeld ?restp17
    case hyp17 => intro w' hSw; (try dsimp only at hSw); go_simp; try with_reducible rfl
    simp only [Act.put]
    try dsimp only
    refine wpAnyF_take [24] (by kernel_rfl) (i := 17) (v := ?vp18) rfl (by kernel_rfl) (by kernel_rfl) (by kernel_rfl) (fun _ _ _ h => h) (Or.inl ⟨by kernel_rfl, ?hyp18⟩) hHeld ?restp18
    case hyp18 => intro w' hSw; (try dsimp only at hSw); go_simp; try with_reducible rfl
    simp only [Act.put]
    try dsimp only
    refine wpAnyF_take [24] (by kernel_rfl) (i := 18) (v := ?vp19) rfl (by kernel_rfl) (by kernel_rfl) (by kernel_rfl) (fun _ _ _ h => h) (Or.inl ⟨by kernel_rfl, ?hyp19⟩) hHeld ?restp19
    case hyp19 => intro w' hSw; (try dsimp only at hSw); go_simp; try with_reducible rfl
    simp only [Act.put]
    try dsimp only
    refine wpAnyF_ready (rs := [19, 20, 21]) (by kernel_rfl) (by simp) ?_
    refine AllReadyF.cons rfl (fun K hK => ?_) ?_
    · go_simp
      refine (HW.out wz0 HBz0.out).mono ?_
      rintro e wz1 ⟨v, rfl, HO0, HBn⟩
      have hbz := HBn.out
      have HO_1 : Hid (IOwn wz1 w.heap.size v (waysP C k)) := hide_ (own_base HO0.out HBz0.out.size)
      have HBz1 := hide_ (below_to HBz0.out hbz)
      have hSz1 := HS1.out wz1 HBz1.out
      clear hbz HBn HO0
      go_simp
      refine hK.out _ _ (hSz1) (fun hHeld => ?_)
      clear hK K
      refine wpAnyF_ready (rs := [20, 21]) (by kernel_rfl) (by simp) ?_
      refine AllReadyF.cons rfl (fun K hK => ?_) ?_
      · go_simp
        obtain ⟨wz2, hz⟩ : ∃ wx, wz1.alloc (.cells #[.int .i64 0, .int .i64 0, .int .i64 0, .int .i64 0] 37) = wx := ⟨_, rfl⟩
        obtain ⟨a5, ha⟩ : ∃ a, wz1.heap.size = a := ⟨_, rfl⟩
        have hbz : Below wz1.heap.size wz1 wz2 := by rw [← hz]; exact below1 _ _
        have K5_2 : Hid (Blk wz2 a5 37 (inc in0)) := hide_ (by rw [← hz, ← ha]; exact Blk.newA _ _ _)
        have HGa5 : Hid (w.heap.size ≤ a5) := hide_ (by have := HBz1.out.size; omega)
        have HBz2 := hide_ (below_to HBz1.out hbz)
        have HO_2 : Hid (IOwn wz2 w.heap.size v (waysP C k)) := hide_ (HO_1.out.later hbz)
        have hSz2 := HS1.out wz2 HBz2.out
        rw [hz, ha]
        clear hbz hz ha
        refine hK.out _ _ (hSz2) (fun hHeld => ?_)
        clear hK K
        refine wpAnyF_ready (rs := [21]) (by kernel_rfl) (by simp) ?_
        refine AllReadyF.cons rfl (fun K hK => ?_) AllReadyF.nil
        go_simp
        obtain ⟨wz3, hz⟩ : ∃ wx, wz2.alloc (.cells #[.int .i64 0, .int .u64 0, .int .i64 0, .int .i64 0, .int .i64 0, .int .i64 0, .bool false] 101) = wx := ⟨_, rfl⟩
        obtain ⟨a6, ha⟩ : ∃ a, wz2.heap.size = a := ⟨_, rfl⟩
        have hbz : Below wz2.heap.size wz2 wz3 := by rw [← hz]; exact below1 _ _
        have K6_3 : Hid (Blk wz3 a6 101 (stc st0)) := hide_ (by rw [← hz, ← ha]; exact Blk.newA _ _ _)
        have HGa6 : Hid (w.heap.size ≤ a6) := hide_ (by have := HBz2.out.size; omega)
        have HBz3 := hide_ (below_to HBz2.out hbz)
        have K5_3 := hide_ (K5_2.out.later hbz)
        have HO_3 : Hid (IOwn wz3 w.heap.size v (waysP C k)) := hide_ (HO_2.out.later hbz)
        have hSz3 := HS1.out wz3 HBz3.out
        rw [hz, ha]
        clear hbz hz ha
        refine hK.out _ _ (hSz3) (fun hHeld => ?_)
        clear hK K
        refine wpAnyF_ready (rs := [22]) (by kernel_rfl) (by simp) ?_
        refine AllReadyF.cons rfl (fun K hK => ?_) AllReadyF.nil
        have p5 := K5_3.out.ci
        have z5 := fun i => K5_3.out.frozen i
        obtain ⟨p50, p51, p52, p53⟩ := p5
        go_simp
        obtain ⟨wz4, hz⟩ : ∃ wx, putI wz3 a5 x = wx := ⟨_, rfl⟩
        have HBz4 : Hid (Below w.heap.size w wz4) := hide_ (by rw [← hz]; exact below_putI HBz3.out _ _ HGa5.out)
        have K5_4 : Hid (Blk wz4 a5 37 (inc x)) := hide_ (by rw [← hz]; exact K5_3.out.putI x)
        have K6_4 : Hid (Blk wz4 a6 101 (stc st0)) := hide_ (by rw [← hz]; exact K6_3.out.putIo _ x (fun e => absurd (blk_type (e ▸ K6_3.out) K5_3.out) (by decide)))
        have HO_4 : Hid (IOwn wz4 w.heap.size v (waysP C k)) := hide_ (by rw [← hz]; exact HO_3.out.upd (putI_upd (Upd.refl (fun q => q = a5) _) _ _ (.inl rfl)) (fun q e e2 => HO_3.out.neB K5_3.out (by decide) (e2 ▸ e)))
        have hSz4 := HS1.out wz4 HBz4.out
        unfold putI at hz
        rw [hz]
        clear hz p50 p51 p52 p53 z5
        refine hK.out _ _ (hSz4) (fun hHeld => ?_)
        clear hK K
        refine wpAnyF_ready (rs := [23]) (by kernel_rfl) (by simp) ?_
        refine AllReadyF.cons rfl (fun K hK => ?_) AllReadyF.nil
        have p6 := K6_4.out.cs
        have z6 := fun i => K6_4.out.frozen i
        obtain ⟨p60, p61, p62, p63, p64, p65, p66⟩ := p6
        go_simp
        obtain ⟨wz5, hz⟩ : ∃ wx, putS wz4 a6 s = wx := ⟨_, rfl⟩
        have HBz5 : Hid (Below w.heap.size w wz5) := hide_ (by rw [← hz]; exact below_putS HBz4.out _ s HGa6.out)
        have K6_5 : Hid (Blk wz5 a6 101 (stc s)) := hide_ (by rw [← hz]; exact K6_4.out.putS s)
        have K5_5 : Hid (Blk wz5 a5 37 (inc x)) := hide_ (by rw [← hz]; exact K5_4.out.putO _ s (fun e => absurd (blk_type (e ▸ K5_4.out) K6_4.out) (by decide)))
        have HO_5 : Hid (IOwn wz5 w.heap.size v (waysP C k)) := hide_ (by rw [← hz]; exact HO_4.out.upd (putS_upd (Upd.refl (fun q => q = a6) _) _ s (.inl rfl)) (fun q e e2 => HO_4.out.neB K6_4.out (by decide) (e2 ▸ e)))
        have hSz5 := HS1.out wz5 HBz5.out
        unfold putS at hz
        rw [hz]
        clear hz p60 p61 p62 p63 p64 p65 p66 z6
        refine hK.out _ _ (hSz5) (fun hHeld => ?_)
        clear hK K
        refine wpAnyF_ready (rs := [24]) (by kernel_rfl) (by simp) ?_
        refine AllReadyF.last rfl (fun K hK => ?_)
        go_simp
        refine hK.out _ _ ?_
        clear hK K
        refine wpAnyF_done (by kernel_rfl) ?_ _
        go_wp2_with fail
        go_meet
        case rel => exact ⟨a5, a6, v, _, rfl, rfl, rfl, rfl, HBz5, K5_5, K6_5, HO_5, HGa5, HGa6⟩
      refine AllReadyF.cons rfl (fun K hK => ?_) AllReadyF.nil
      go_simp
      obtain ⟨wz2, hz⟩ : ∃ wx, wz1.alloc (.cells #[.int .i64 0, .int .u64 0, .int .i64 0, .int .i64 0, .int .i64 0, .int .i64 0, .bool false] 101) = wx := ⟨_, rfl⟩
      obtain ⟨a6, ha⟩ : ∃ a, wz1.heap.size = a := ⟨_, rfl⟩
      have hbz : Below wz1.heap.size wz1 wz2 := by rw [← hz]; exact below1 _ _
      have K6_2 : Hid (Blk wz2 a6 101 (stc st0)) := hide_ (by rw [← hz, ← ha]; exact Blk.newA _ _ _)
      have HGa6 : Hid (w.heap.size ≤ a6) := hide_ (by have := HBz1.out.size; omega)
      have HBz2 := hide_ (below_to HBz1.out hbz)
      have HO_2 : Hid (IOwn wz2 w.heap.size v (waysP C k)) := hide_ (HO_1.out.later hbz)
      have hSz2 := HS1.out wz2 HBz2.out
      rw [hz, ha]
      clear hbz hz ha
      refine hK.out _ _ (hSz2) (fun hHeld => ?_)
      clear hK K
      refine wpAnyF_ready (rs := [20]) (by kernel_rfl) (by simp) ?_
      refine AllReadyF.cons rfl (fun K hK => ?_) AllReadyF.nil
      go_simp
      obtain ⟨wz3, hz⟩ : ∃ wx, wz2.alloc (.cells #[.int .i64 0, .int .i64 0, .int .i64 0, .int .i64 0] 37) = wx := ⟨_, rfl⟩
      obtain ⟨a5, ha⟩ : ∃ a, wz2.heap.size = a := ⟨_, rfl⟩
      have hbz : Below wz2.heap.size wz2 wz3 := by rw [← hz]; exact below1 _ _
      have K5_3 : Hid (Blk wz3 a5 37 (inc in0)) := hide_ (by rw [← hz, ← ha]; exact Blk.newA _ _ _)
      have HGa5 : Hid (w.heap.size ≤ a5) := hide_ (by have := HBz2.out.size; omega)
      have HBz3 := hide_ (below_to HBz2.out hbz)
      have K6_3 := hide_ (K6_2.out.later hbz)
      have HO_3 : Hid (IOwn wz3 w.heap.size v (waysP C k)) := hide_ (HO_2.out.later hbz)
      have hSz3 := HS1.out wz3 HBz3.out
      rw [hz, ha]
      clear hbz hz ha
      refine hK.out _ _ (hSz3) (fun hHeld => ?_)
      clear hK K
      refine wpAnyF_ready (rs := [22]) (by kernel_rfl) (by simp) ?_
      refine AllReadyF.cons rfl (fun K hK => ?_) AllReadyF.nil
      have p5 := K5_3.out.ci
      have z5 := fun i => K5_3.out.frozen i
      obtain ⟨p50, p51, p52, p53⟩ := p5
      go_simp
      obtain ⟨wz4, hz⟩ : ∃ wx, putI wz3 a5 x = wx := ⟨_, rfl⟩
      have HBz4 : Hid (Below w.heap.size w wz4) := hide_ (by rw [← hz]; exact below_putI HBz3.out _ _ HGa5.out)
      have K5_4 : Hid (Blk wz4 a5 37 (inc x)) := hide_ (by rw [← hz]; exact K5_3.out.putI x)
      have K6_4 : Hid (Blk wz4 a6 101 (stc st0)) := hide_ (by rw [← hz]; exact K6_3.out.putIo _ x (fun e => absurd (blk_type (e ▸ K6_3.out) K5_3.out) (by decide)))
      have HO_4 : Hid (IOwn wz4 w.heap.size v (waysP C k)) := hide_ (by rw [← hz]; exact HO_3.out.upd (putI_upd (Upd.refl (fun q => q = a5) _) _ _ (.inl rfl)) (fun q e e2 => HO_3.out.neB K5_3.out (by decide) (e2 ▸ e)))
      have hSz4 := HS1.out wz4 HBz4.out
      unfold putI at hz
      rw [hz]
      clear hz p50 p51 p52 p53 z5
      refine hK.out _ _ (hSz4) (fun hHeld => ?_)
      clear hK K
      refine wpAnyF_ready (rs := [23]) (by kernel_rfl) (by simp) ?_
      refine AllReadyF.cons rfl (fun K hK => ?_) AllReadyF.nil
      have p6 := K6_4.out.cs
      have z6 := fun i => K6_4.out.frozen i
      obtain ⟨p60, p61, p62, p63, p64, p65, p66⟩ := p6
      go_simp
      obtain ⟨wz5, hz⟩ : ∃ wx, putS wz4 a6 s = wx := ⟨_, rfl⟩
      have HBz5 : Hid (Below w.heap.size w wz5) := hide_ (by rw [← hz]; exact below_putS HBz4.out _ s HGa6.out)
      have K6_5 : Hid (Blk wz5 a6 101 (stc s)) := hide_ (by rw [← hz]; exact K6_4.out.putS s)
      have K5_5 : Hid (Blk wz5 a5 37 (inc x)) := hide_ (by rw [← hz]; exact K5_4.out.putO _ s (fun e => absurd (blk_type (e ▸ K5_4.out) K6_4.out) (by decide)))
      have HO_5 : Hid (IOwn wz5 w.heap.size v (waysP C k)) := hide_ (by rw [← hz]; exact HO_4.out.upd (putS_upd (Upd.refl (fun q => q = a6) _) _ s (.inl rfl)) (fun q e e2 => HO_4.out.neB K6_4.out (by decide) (e2 ▸ e)))
      have hSz5 := HS1.out wz5 HBz5.out
      unfold putS at hz
      rw [hz]
      clear hz p60 p61 p62 p63 p64 p65 p66 z6
      refine hK.out _ _ (hSz5) (fun hHeld => ?_)
      clear hK K
      refine wpAnyF_ready (rs := [24]) (by kernel_rfl) (by simp) ?_
      refine AllReadyF.last rfl (fun K hK => ?_)
      go_simp
      refine hK.out _ _ ?_
      clear hK K
      refine wpAnyF_done (by kernel_rfl) ?_ _
      go_wp2_with fail
      go_meet
      case rel => exact ⟨a5, a6, v, _, rfl, rfl, rfl, rfl, HBz5, K5_5, K6_5, HO_5, HGa5, HGa6⟩
    refine AllReadyF.cons rfl (fun K hK => ?_) ?_
    · go_simp
      obtain ⟨wz1, hz⟩ : ∃ wx, wz0.alloc (.cells #[.int .i64 0, .int .i64 0, .int .i64 0, .int .i64 0] 37) = wx := ⟨_, rfl⟩
      obtain ⟨a5, ha⟩ : ∃ a, wz0.heap.size = a := ⟨_, rfl⟩
      have hbz : Below wz0.heap.size wz0 wz1 := by rw [← hz]; exact below1 _ _
      have K5_1 : Hid (Blk wz1 a5 37 (inc in0)) := hide_ (by rw [← hz, ← ha]; exact Blk.newA _ _ _)
      have HGa5 : Hid (w.heap.size ≤ a5) := hide_ (by have := HBz0.out.size; omega)
      have HBz1 := hide_ (below_to HBz0.out hbz)
      have hSz1 := HS1.out wz1 HBz1.out
      rw [hz, ha]
      clear hbz hz ha
      refine hK.out _ _ (hSz1) (fun hHeld => ?_)
      clear hK K
      refine wpAnyF_ready (rs := [19, 21]) (by kernel_rfl) (by simp) ?_
      refine AllReadyF.cons rfl (fun K hK => ?_) ?_
      · go_simp
        refine (HW.out wz1 HBz1.out).mono ?_
        rintro e wz2 ⟨v, rfl, HO0, HBn⟩
        have hbz := HBn.out
        have HO_2 : Hid (IOwn wz2 w.heap.size v (waysP C k)) := hide_ (own_base HO0.out HBz1.out.size)
        have HBz2 := hide_ (below_to HBz1.out hbz)
        have K5_2 := hide_ (K5_1.out.later hbz)
        have hSz2 := HS1.out wz2 HBz2.out
        clear hbz HBn HO0
        go_simp
        refine hK.out _ _ (hSz2) (fun hHeld => ?_)
        clear hK K
        refine wpAnyF_ready (rs := [21]) (by kernel_rfl) (by simp) ?_
        refine AllReadyF.cons rfl (fun K hK => ?_) AllReadyF.nil
        go_simp
        obtain ⟨wz3, hz⟩ : ∃ wx, wz2.alloc (.cells #[.int .i64 0, .int .u64 0, .int .i64 0, .int .i64 0, .int .i64 0, .int .i64 0, .bool false] 101) = wx := ⟨_, rfl⟩
        obtain ⟨a6, ha⟩ : ∃ a, wz2.heap.size = a := ⟨_, rfl⟩
        have hbz : Below wz2.heap.size wz2 wz3 := by rw [← hz]; exact below1 _ _
        have K6_3 : Hid (Blk wz3 a6 101 (stc st0)) := hide_ (by rw [← hz, ← ha]; exact Blk.newA _ _ _)
        have HGa6 : Hid (w.heap.size ≤ a6) := hide_ (by have := HBz2.out.size; omega)
        have HBz3 := hide_ (below_to HBz2.out hbz)
        have K5_3 := hide_ (K5_2.out.later hbz)
        have HO_3 : Hid (IOwn wz3 w.heap.size v (waysP C k)) := hide_ (HO_2.out.later hbz)
        have hSz3 := HS1.out wz3 HBz3.out
        rw [hz, ha]
        clear hbz hz ha
        refine hK.out _ _ (hSz3) (fun hHeld => ?_)
        clear hK K
        refine wpAnyF_ready (rs := [22]) (by kernel_rfl) (by simp) ?_
        refine AllReadyF.cons rfl (fun K hK => ?_) AllReadyF.nil
        have p5 := K5_3.out.ci
        have z5 := fun i => K5_3.out.frozen i
        obtain ⟨p50, p51, p52, p53⟩ := p5
        go_simp
        obtain ⟨wz4, hz⟩ : ∃ wx, putI wz3 a5 x = wx := ⟨_, rfl⟩
        have HBz4 : Hid (Below w.heap.size w wz4) := hide_ (by rw [← hz]; exact below_putI HBz3.out _ _ HGa5.out)
        have K5_4 : Hid (Blk wz4 a5 37 (inc x)) := hide_ (by rw [← hz]; exact K5_3.out.putI x)
        have K6_4 : Hid (Blk wz4 a6 101 (stc st0)) := hide_ (by rw [← hz]; exact K6_3.out.putIo _ x (fun e => absurd (blk_type (e ▸ K6_3.out) K5_3.out) (by decide)))
        have HO_4 : Hid (IOwn wz4 w.heap.size v (waysP C k)) := hide_ (by rw [← hz]; exact HO_3.out.upd (putI_upd (Upd.refl (fun q => q = a5) _) _ _ (.inl rfl)) (fun q e e2 => HO_3.out.neB K5_3.out (by decide) (e2 ▸ e)))
        have hSz4 := HS1.out wz4 HBz4.out
        unfold putI at hz
        rw [hz]
        clear hz p50 p51 p52 p53 z5
        refine hK.out _ _ (hSz4) (fun hHeld => ?_)
        clear hK K
        refine wpAnyF_ready (rs := [23]) (by kernel_rfl) (by simp) ?_
        refine AllReadyF.cons rfl (fun K hK => ?_) AllReadyF.nil
        have p6 := K6_4.out.cs
        have z6 := fun i => K6_4.out.frozen i
        obtain ⟨p60, p61, p62, p63, p64, p65, p66⟩ := p6
        go_simp
        obtain ⟨wz5, hz⟩ : ∃ wx, putS wz4 a6 s = wx := ⟨_, rfl⟩
        have HBz5 : Hid (Below w.heap.size w wz5) := hide_ (by rw [← hz]; exact below_putS HBz4.out _ s HGa6.out)
        have K6_5 : Hid (Blk wz5 a6 101 (stc s)) := hide_ (by rw [← hz]; exact K6_4.out.putS s)
        have K5_5 : Hid (Blk wz5 a5 37 (inc x)) := hide_ (by rw [← hz]; exact K5_4.out.putO _ s (fun e => absurd (blk_type (e ▸ K5_4.out) K6_4.out) (by decide)))
        have HO_5 : Hid (IOwn wz5 w.heap.size v (waysP C k)) := hide_ (by rw [← hz]; exact HO_4.out.upd (putS_upd (Upd.refl (fun q => q = a6) _) _ s (.inl rfl)) (fun q e e2 => HO_4.out.neB K6_4.out (by decide) (e2 ▸ e)))
        have hSz5 := HS1.out wz5 HBz5.out
        unfold putS at hz
        rw [hz]
        clear hz p60 p61 p62 p63 p64 p65 p66 z6
        refine hK.out _ _ (hSz5) (fun hHeld => ?_)
        clear hK K
        refine wpAnyF_ready (rs := [24]) (by kernel_rfl) (by simp) ?_
        refine AllReadyF.last rfl (fun K hK => ?_)
        go_simp
        refine hK.out _ _ ?_
        clear hK K
        refine wpAnyF_done (by kernel_rfl) ?_ _
        go_wp2_with fail
        go_meet
        case rel => exact ⟨a5, a6, v, _, rfl, rfl, rfl, rfl, HBz5, K5_5, K6_5, HO_5, HGa5, HGa6⟩
      refine AllReadyF.cons rfl (fun K hK => ?_) AllReadyF.nil
      go_simp
      obtain ⟨wz2, hz⟩ : ∃ wx, wz1.alloc (.cells #[.int .i64 0, .int .u64 0, .int .i64 0, .int .i64 0, .int .i64 0, .int .i64 0, .bool false] 101) = wx := ⟨_, rfl⟩
      obtain ⟨a6, ha⟩ : ∃ a, wz1.heap.size = a := ⟨_, rfl⟩
      have hbz : Below wz1.heap.size wz1 wz2 := by rw [← hz]; exact below1 _ _
      have K6_2 : Hid (Blk wz2 a6 101 (stc st0)) := hide_ (by rw [← hz, ← ha]; exact Blk.newA _ _ _)
      have HGa6 : Hid (w.heap.size ≤ a6) := hide_ (by have := HBz1.out.size; omega)
      have HBz2 := hide_ (below_to HBz1.out hbz)
      have K5_2 := hide_ (K5_1.out.later hbz)
      have hSz2 := HS1.out wz2 HBz2.out
      rw [hz, ha]
      clear hbz hz ha
      refine hK.out _ _ (hSz2) (fun hHeld => ?_)
      clear hK K
      refine wpAnyF_ready (rs := [19]) (by kernel_rfl) (by simp) ?_
      refine AllReadyF.cons rfl (fun K hK => ?_) AllReadyF.nil
      go_simp
      refine (HW.out wz2 HBz2.out).mono ?_
      rintro e wz3 ⟨v, rfl, HO0, HBn⟩
      have hbz := HBn.out
      have HO_3 : Hid (IOwn wz3 w.heap.size v (waysP C k)) := hide_ (own_base HO0.out HBz2.out.size)
      have HBz3 := hide_ (below_to HBz2.out hbz)
      have K5_3 := hide_ (K5_2.out.later hbz)
      have K6_3 := hide_ (K6_2.out.later hbz)
      have hSz3 := HS1.out wz3 HBz3.out
      clear hbz HBn HO0
      go_simp
      refine hK.out _ _ (hSz3) (fun hHeld => ?_)
      clear hK K
      refine wpAnyF_ready (rs := [22]) (by kernel_rfl) (by simp) ?_
      refine AllReadyF.cons rfl (fun K hK => ?_) AllReadyF.nil
      have p5 := K5_3.out.ci
      have z5 := fun i => K5_3.out.frozen i
      obtain ⟨p50, p51, p52, p53⟩ := p5
      go_simp
      obtain ⟨wz4, hz⟩ : ∃ wx, putI wz3 a5 x = wx := ⟨_, rfl⟩
      have HBz4 : Hid (Below w.heap.size w wz4) := hide_ (by rw [← hz]; exact below_putI HBz3.out _ _ HGa5.out)
      have K5_4 : Hid (Blk wz4 a5 37 (inc x)) := hide_ (by rw [← hz]; exact K5_3.out.putI x)
      have K6_4 : Hid (Blk wz4 a6 101 (stc st0)) := hide_ (by rw [← hz]; exact K6_3.out.putIo _ x (fun e => absurd (blk_type (e ▸ K6_3.out) K5_3.out) (by decide)))
      have HO_4 : Hid (IOwn wz4 w.heap.size v (waysP C k)) := hide_ (by rw [← hz]; exact HO_3.out.upd (putI_upd (Upd.refl (fun q => q = a5) _) _ _ (.inl rfl)) (fun q e e2 => HO_3.out.neB K5_3.out (by decide) (e2 ▸ e)))
      have hSz4 := HS1.out wz4 HBz4.out
      unfold putI at hz
      rw [hz]
      clear hz p50 p51 p52 p53 z5
      refine hK.out _ _ (hSz4) (fun hHeld => ?_)
      clear hK K
      refine wpAnyF_ready (rs := [23]) (by kernel_rfl) (by simp) ?_
      refine AllReadyF.cons rfl (fun K hK => ?_) AllReadyF.nil
      have p6 := K6_4.out.cs
      have z6 := fun i => K6_4.out.frozen i
      obtain ⟨p60, p61, p62, p63, p64, p65, p66⟩ := p6
      go_simp
      obtain ⟨wz5, hz⟩ : ∃ wx, putS wz4 a6 s = wx := ⟨_, rfl⟩
      have HBz5 : Hid (Below w.heap.size w wz5) := hide_ (by rw [← hz]; exact below_putS HBz4.out _ s HGa6.out)
      have K6_5 : Hid (Blk wz5 a6 101 (stc s)) := hide_ (by rw [← hz]; exact K6_4.out.putS s)
      have K5_5 : Hid (Blk wz5 a5 37 (inc x)) := hide_ (by rw [← hz]; exact K5_4.out.putO _ s (fun e => absurd (blk_type (e ▸ K5_4.out) K6_4.out) (by decide)))
      have HO_5 : Hid (IOwn wz5 w.heap.size v (waysP C k)) := hide_ (by rw [← hz]; exact HO_4.out.upd (putS_upd (Upd.refl (fun q => q = a6) _) _ s (.inl rfl)) (fun q e e2 => HO_4.out.neB K6_4.out (by decide) (e2 ▸ e)))
      have hSz5 := HS1.out wz5 HBz5.out
      unfold putS at hz
      rw [hz]
      clear hz p60 p61 p62 p63 p64 p65 p66 z6
      refine hK.out _ _ (hSz5) (fun hHeld => ?_)
      clear hK K
      refine wpAnyF_ready (rs := [24]) (by kernel_rfl) (by simp) ?_
      refine AllReadyF.last rfl (fun K hK => ?_)
      go_simp
      refine hK.out _ _ ?_
      clear hK K
      refine wpAnyF_done (by kernel_rfl) ?_ _
      go_wp2_with fail
      go_meet
      case rel => exact ⟨a5, a6, v, _, rfl, rfl, rfl, rfl, HBz5, K5_5, K6_5, HO_5, HGa5, HGa6⟩
    refine AllReadyF.cons rfl (fun K hK => ?_) AllReadyF.nil
    go_simp
    obtain ⟨wz1, hz⟩ : ∃ wx, wz0.alloc (.cells #[.int .i64 0, .int .u64 0, .int .i64 0, .int .i64 0, .int .i64 0, .int .i64 0, .bool false] 101) = wx := ⟨_, rfl⟩
    obtain ⟨a6, ha⟩ : ∃ a, wz0.heap.size = a := ⟨_, rfl⟩
    have hbz : Below wz0.heap.size wz0 wz1 := by rw [← hz]; exact below1 _ _
    have K6_1 : Hid (Blk wz1 a6 101 (stc st0)) := hide_ (by rw [← hz, ← ha]; exact Blk.newA _ _ _)
    have HGa6 : Hid (w.heap.size ≤ a6) := hide_ (by have := HBz0.out.size; omega)
    have HBz1 := hide_ (below_to HBz0.out hbz)
    have hSz1 := HS1.out wz1 HBz1.out
    rw [hz, ha]
    clear hbz hz ha
    refine hK.out _ _ (hSz1) (fun hHeld => ?_)
    clear hK K
    refine wpAnyF_ready (rs := [19, 20]) (by kernel_rfl) (by simp) ?_
    refine AllReadyF.cons rfl (fun K hK => ?_) ?_
    · go_simp
      refine (HW.out wz1 HBz1.out).mono ?_
      rintro e wz2 ⟨v, rfl, HO0, HBn⟩
      have hbz := HBn.out
      have HO_2 : Hid (IOwn wz2 w.heap.size v (waysP C k)) := hide_ (own_base HO0.out HBz1.out.size)
      have HBz2 := hide_ (below_to HBz1.out hbz)
      have K6_2 := hide_ (K6_1.out.later hbz)
      have hSz2 := HS1.out wz2 HBz2.out
      clear hbz HBn HO0
      go_simp
      refine hK.out _ _ (hSz2) (fun hHeld => ?_)
      clear hK K
      refine wpAnyF_ready (rs := [20]) (by kernel_rfl) (by simp) ?_
      refine AllReadyF.cons rfl (fun K hK => ?_) AllReadyF.nil
      go_simp
      obtain ⟨wz3, hz⟩ : ∃ wx, wz2.alloc (.cells #[.int .i64 0, .int .i64 0, .int .i64 0, .int .i64 0] 37) = wx := ⟨_, rfl⟩
      obtain ⟨a5, ha⟩ : ∃ a, wz2.heap.size = a := ⟨_, rfl⟩
      have hbz : Below wz2.heap.size wz2 wz3 := by rw [← hz]; exact below1 _ _
      have K5_3 : Hid (Blk wz3 a5 37 (inc in0)) := hide_ (by rw [← hz, ← ha]; exact Blk.newA _ _ _)
      have HGa5 : Hid (w.heap.size ≤ a5) := hide_ (by have := HBz2.out.size; omega)
      have HBz3 := hide_ (below_to HBz2.out hbz)
      have K6_3 := hide_ (K6_2.out.later hbz)
      have HO_3 : Hid (IOwn wz3 w.heap.size v (waysP C k)) := hide_ (HO_2.out.later hbz)
      have hSz3 := HS1.out wz3 HBz3.out
      rw [hz, ha]
      clear hbz hz ha
      refine hK.out _ _ (hSz3) (fun hHeld => ?_)
      clear hK K
      refine wpAnyF_ready (rs := [22]) (by kernel_rfl) (by simp) ?_
      refine AllReadyF.cons rfl (fun K hK => ?_) AllReadyF.nil
      have p5 := K5_3.out.ci
      have z5 := fun i => K5_3.out.frozen i
      obtain ⟨p50, p51, p52, p53⟩ := p5
      go_simp
      obtain ⟨wz4, hz⟩ : ∃ wx, putI wz3 a5 x = wx := ⟨_, rfl⟩
      have HBz4 : Hid (Below w.heap.size w wz4) := hide_ (by rw [← hz]; exact below_putI HBz3.out _ _ HGa5.out)
      have K5_4 : Hid (Blk wz4 a5 37 (inc x)) := hide_ (by rw [← hz]; exact K5_3.out.putI x)
      have K6_4 : Hid (Blk wz4 a6 101 (stc st0)) := hide_ (by rw [← hz]; exact K6_3.out.putIo _ x (fun e => absurd (blk_type (e ▸ K6_3.out) K5_3.out) (by decide)))
      have HO_4 : Hid (IOwn wz4 w.heap.size v (waysP C k)) := hide_ (by rw [← hz]; exact HO_3.out.upd (putI_upd (Upd.refl (fun q => q = a5) _) _ _ (.inl rfl)) (fun q e e2 => HO_3.out.neB K5_3.out (by decide) (e2 ▸ e)))
      have hSz4 := HS1.out wz4 HBz4.out
      unfold putI at hz
      rw [hz]
      clear hz p50 p51 p52 p53 z5
      refine hK.out _ _ (hSz4) (fun hHeld => ?_)
      clear hK K
      refine wpAnyF_ready (rs := [23]) (by kernel_rfl) (by simp) ?_
      refine AllReadyF.cons rfl (fun K hK => ?_) AllReadyF.nil
      have p6 := K6_4.out.cs
      have z6 := fun i => K6_4.out.frozen i
      obtain ⟨p60, p61, p62, p63, p64, p65, p66⟩ := p6
      go_simp
      obtain ⟨wz5, hz⟩ : ∃ wx, putS wz4 a6 s = wx := ⟨_, rfl⟩
      have HBz5 : Hid (Below w.heap.size w wz5) := hide_ (by rw [← hz]; exact below_putS HBz4.out _ s HGa6.out)
      have K6_5 : Hid (Blk wz5 a6 101 (stc s)) := hide_ (by rw [← hz]; exact K6_4.out.putS s)
      have K5_5 : Hid (Blk wz5 a5 37 (inc x)) := hide_ (by rw [← hz]; exact K5_4.out.putO _ s (fun e => absurd (blk_type (e ▸ K5_4.out) K6_4.out) (by decide)))
      have HO_5 : Hid (IOwn wz5 w.heap.size v (waysP C k)) := hide_ (by rw [← hz]; exact HO_4.out.upd (putS_upd (Upd.refl (fun q => q = a6) _) _ s (.inl rfl)) (fun q e e2 => HO_4.out.neB K6_4.out (by decide) (e2 ▸ e)))
      have hSz5 := HS1.out wz5 HBz5.out
      unfold putS at hz
      rw [hz]
      clear hz p60 p61 p62 p63 p64 p65 p66 z6
      refine hK.out _ _ (hSz5) (fun hHeld => ?_)
      clear hK K
      refine wpAnyF_ready (rs := [24]) (by kernel_rfl) (by simp) ?_
      refine AllReadyF.last rfl (fun K hK => ?_)
      go_simp
      refine hK.out _ _ ?_
      clear hK K
      refine wpAnyF_done (by kernel_rfl) ?_ _
      go_wp2_with fail
      go_meet
      case rel => exact ⟨a5, a6, v, _, rfl, rfl, rfl, rfl, HBz5, K5_5, K6_5, HO_5, HGa5, HGa6⟩
    refine AllReadyF.cons rfl (fun K hK => ?_) AllReadyF.nil
    go_simp
    obtain ⟨wz2, hz⟩ : ∃ wx, wz1.alloc (.cells #[.int .i64 0, .int .i64 0, .int .i64 0, .int .i64 0] 37) = wx := ⟨_, rfl⟩
    obtain ⟨a5, ha⟩ : ∃ a, wz1.heap.size = a := ⟨_, rfl⟩
    have hbz : Below wz1.heap.size wz1 wz2 := by rw [← hz]; exact below1 _ _
    have K5_2 : Hid (Blk wz2 a5 37 (inc in0)) := hide_ (by rw [← hz, ← ha]; exact Blk.newA _ _ _)
    have HGa5 : Hid (w.heap.size ≤ a5) := hide_ (by have := HBz1.out.size; omega)
    have HBz2 := hide_ (below_to HBz1.out hbz)
    have K6_2 := hide_ (K6_1.out.later hbz)
    have hSz2 := HS1.out wz2 HBz2.out
    rw [hz, ha]
    clear hbz hz ha
    refine hK.out _ _ (hSz2) (fun hHeld => ?_)
    clear hK K
    refine wpAnyF_ready (rs := [19]) (by kernel_rfl) (by simp) ?_
    refine AllReadyF.cons rfl (fun K hK => ?_) AllReadyF.nil
    go_simp
    refine (HW.out wz2 HBz2.out).mono ?_
    rintro e wz3 ⟨v, rfl, HO0, HBn⟩
    have hbz := HBn.out
    have HO_3 : Hid (IOwn wz3 w.heap.size v (waysP C k)) := hide_ (own_base HO0.out HBz2.out.size)
    have HBz3 := hide_ (below_to HBz2.out hbz)
    have K5_3 := hide_ (K5_2.out.later hbz)
    have K6_3 := hide_ (K6_2.out.later hbz)
    have hSz3 := HS1.out wz3 HBz3.out
    clear hbz HBn HO0
    go_simp
    refine hK.out _ _ (hSz3) (fun hHeld => ?_)
    clear hK K
    refine wpAnyF_ready (rs := [22]) (by kernel_rfl) (by simp) ?_
    refine AllReadyF.cons rfl (fun K hK => ?_) AllReadyF.nil
    have p5 := K5_3.out.ci
    have z5 := fun i => K5_3.out.frozen i
    obtain ⟨p50, p51, p52, p53⟩ := p5
    go_simp
    obtain ⟨wz4, hz⟩ : ∃ wx, putI wz3 a5 x = wx := ⟨_, rfl⟩
    have HBz4 : Hid (Below w.heap.size w wz4) := hide_ (by rw [← hz]; exact below_putI HBz3.out _ _ HGa5.out)
    have K5_4 : Hid (Blk wz4 a5 37 (inc x)) := hide_ (by rw [← hz]; exact K5_3.out.putI x)
    have K6_4 : Hid (Blk wz4 a6 101 (stc st0)) := hide_ (by rw [← hz]; exact K6_3.out.putIo _ x (fun e => absurd (blk_type (e ▸ K6_3.out) K5_3.out) (by decide)))
    have HO_4 : Hid (IOwn wz4 w.heap.size v (waysP C k)) := hide_ (by rw [← hz]; exact HO_3.out.upd (putI_upd (Upd.refl (fun q => q = a5) _) _ _ (.inl rfl)) (fun q e e2 => HO_3.out.neB K5_3.out (by decide) (e2 ▸ e)))
    have hSz4 := HS1.out wz4 HBz4.out
    unfold putI at hz
    rw [hz]
    clear hz p50 p51 p52 p53 z5
    refine hK.out _ _ (hSz4) (fun hHeld => ?_)
    clear hK K
    refine wpAnyF_ready (rs := [23]) (by kernel_rfl) (by simp) ?_
    refine AllReadyF.cons rfl (fun K hK => ?_) AllReadyF.nil
    have p6 := K6_4.out.cs
    have z6 := fun i => K6_4.out.frozen i
    obtain ⟨p60, p61, p62, p63, p64, p65, p66⟩ := p6
    go_simp
    obtain ⟨wz5, hz⟩ : ∃ wx, putS wz4 a6 s = wx := ⟨_, rfl⟩
    have HBz5 : Hid (Below w.heap.size w wz5) := hide_ (by rw [← hz]; exact below_putS HBz4.out _ s HGa6.out)
    have K6_5 : Hid (Blk wz5 a6 101 (stc s)) := hide_ (by rw [← hz]; exact K6_4.out.putS s)
    have K5_5 : Hid (Blk wz5 a5 37 (inc x)) := hide_ (by rw [← hz]; exact K5_4.out.putO _ s (fun e => absurd (blk_type (e ▸ K5_4.out) K6_4.out) (by decide)))
    have HO_5 : Hid (IOwn wz5 w.heap.size v (waysP C k)) := hide_ (by rw [← hz]; exact HO_4.out.upd (putS_upd (Upd.refl (fun q => q = a6) _) _ s (.inl rfl)) (fun q e e2 => HO_4.out.neB K6_4.out (by decide) (e2 ▸ e)))
    have hSz5 := HS1.out wz5 HBz5.out
    unfold putS at hz
    rw [hz]
    clear hz p60 p61 p62 p63 p64 p65 p66 z6
    refine hK.out _ _ (hSz5) (fun hHeld => ?_)
    clear hK K
    refine wpAnyF_ready (rs := [24]) (by kernel_rfl) (by simp) ?_
    refine AllReadyF.last rfl (fun K hK => ?_)
    go_simp
    refine hK.out _ _ ?_
    clear hK K
    refine wpAnyF_done (by kernel_rfl) ?_ _
    go_wp2_with fail
    go_meet
    case rel => exact ⟨a5, a6, v, _, rfl, rfl, rfl, rfl, HBz5, K5_5, K6_5, HO_5, HGa5, HGa6⟩
  case rest =>
  obtain ⟨a5, a6, v, w3, rfl, rfl, rfl, rfl, HB3, K5, K6, HO, HGa5, HGa6⟩ := hcut
  have HL3 := hide_ (h.out.later HB3.out)
  have Hgs : Hid (gs < w.heap.size ∧ b < w.heap.size ∧ ∀ q, vp.ownBlock = some q → q < w.heap.size) := hide_ ⟨h.out.st.lt, h.out.blk.lt, fun q e => (h.out.pend.lies e).2⟩
  clear HS1 HW h HB3
  obtain ⟨ws, hws⟩ : ∃ ws, waysP C k = ws := ⟨_, rfl⟩
  have Hws := hide_ hws
  rw [hws] at HO HR
  clear hws
  obtain ⟨av, cv, hv, hrow, -, -⟩ := HO.out.row
  obtain ⟨n, hn⟩ : ∃ n, ws.length = n := ⟨_, rfl⟩
  rw [hn] at hv
  have Hn := hide_ hn
  have Hv := hide_ hv
  have hn9 : (n : Int) ≤ 1048576 := by
    have h2 : (waysP C k).length ≤ 1048576 := by
      unfold waysP
      have := hC.out.arm k hk
      repeat' split
      all_goals simp
      all_goals omega
    rw [Hws.out, hn] at h2
    omega
  subst hv
  have HSt : Hid (∀ w, Calls Tryz.prog (fSt enc) #[.agg #[], stv s, inv x, .int .i64 r] w fun e w' => e = .returned (.bool (mSt enc s x r)) ∧ Below w.heap.size w w') := hide_ (fun w => mstands_any enc s x r w Hx.out HsO.out)
  have HCo : Hid (∀ w4, Below w3.heap.size w3 w4 → Calls Tryz.prog 60 #[.slice av n cv, .int .i64 (C.length : Int)] w4 fun e w' => e = .returned (.bool (decide ((C.length : Int) ∈ ws))) ∧ w4 = w') := hide_ (fun w4 hB => containsI_any av n cv ws _ w4 hn (by omega) (hide_ (by obtain ⟨av', cv', e', h', -, -⟩ := (HO.out.later hB).row; injection e' with e1 _ _; subst e1; exact h')))
  have HS2 : Hid (∀ w4, Below w3.heap.size w3 w4 → (fun w' => w'.cell? ⟨b, 0, none⟩ = some (.iface (mTy enc) (.agg #[])) ∧ w'.cell? ⟨b, 1, none⟩ = some (.slice (some ⟨bc, oc, none⟩) C.length cc) ∧ w'.cell? ⟨b, 2, none⟩ = some (.int .i64 r) ∧ w'.cell? ⟨a5, 0, none⟩ = some (.int .i64 x.op) ∧ w'.cell? ⟨a5, 1, none⟩ = some (.int .i64 x.a) ∧ w'.cell? ⟨a5, 2, none⟩ = some (.int .i64 x.b) ∧ w'.cell? ⟨a5, 3, none⟩ = some (.int .i64 x.c) ∧ w'.cell? ⟨a6, 0, none⟩ = some (.int .i64 s.pl) ∧ w'.cell? ⟨a6, 1, none⟩ = some (.int .u64 (s.ki : Int)) ∧ w'.cell? ⟨a6, 2, none⟩ = some (.int .i64 s.tb) ∧ w'.cell? ⟨a6, 3, none⟩ = some (.int .i64 s.pa) ∧ w'.cell? ⟨a6, 4, none⟩ = some (.int .i64 s.fr) ∧ w'.cell? ⟨a6, 5, none⟩ = some (.int .i64 s.le) ∧ w'.cell? ⟨a6, 6, none⟩ = some (.bool s.su)) w4) := hide_ (fun w4 hB => by
    have a1 := (K6.out.later hB).cs
    have a2 := (K5.out.later hB).ci
    have a3 := (HL3.out.later hB).cells
    exact ⟨a3.1, a3.2.1, a3.2.2.1, a2.1, a2.2.1, a2.2.2.1, a2.2.2.2, a1⟩)
  clear hn hrow
  obtain ⟨q, hq⟩ : ∃ q, mSt enc s x r = q := ⟨_, rfl⟩
  obtain ⟨d, hd⟩ : ∃ d, decide ((C.length : Int) ∈ ws) = d := ⟨_, rfl⟩
  rw [hq] at HSt
  rw [hd] at HCo
  have Hq := hide_ hq
  have Hd := hide_ hd
  clear hq hd
  go_upto_region 2 with fail
  go_cut [52] from 30 to 52 (fun x52 wc => ∃ (w4 : World), w4 = wc ∧ x52 = .bool (!q || d) ∧ Hid (Below w3.heap.size w3 w4))
  case first =>
    cases q
    · refine wp_region_last 22 (fun w' => w'.cell? ⟨b, 0, none⟩ = some (.iface (mTy enc) (.agg #[])) ∧ w'.cell? ⟨b, 1, none⟩ = some (.slice (some ⟨bc, oc, none⟩) C.length cc) ∧ w'.cell? ⟨b, 2, none⟩ = some (.int .i64 r) ∧ w'.cell? ⟨a5, 0, none⟩ = some (.int .i64 x.op) ∧ w'.cell? ⟨a5, 1, none⟩ = some (.int .i64 x.a) ∧ w'.cell? ⟨a5, 2, none⟩ = some (.int .i64 x.b) ∧ w'.cell? ⟨a5, 3, none⟩ = some (.int .i64 x.c) ∧ w'.cell? ⟨a6, 0, none⟩ = some (.int .i64 s.pl) ∧ w'.cell? ⟨a6, 1, none⟩ = some (.int .u64 (s.ki : Int)) ∧ w'.cell? ⟨a6, 2, none⟩ = some (.int .i64 s.tb) ∧ w'.cell? ⟨a6, 3, none⟩ = some (.int .i64 s.pa) ∧ w'.cell? ⟨a6, 4, none⟩ = some (.int .i64 s.fr) ∧ w'.cell? ⟨a6, 5, none⟩ = some (.int .i64 s.le) ∧ w'.cell? ⟨a6, 6, none⟩ = some (.bool s.su)) (by kernel_rfl) (HS2.out _ (Below.refl _ _).drew) (fun hHeld => ?_)
      refine wpAnyF_take [22, 14, 12, 11, 3, 2, 1] (by kernel_rfl) (i := 0) (v := ?vq1) rfl (by kernel_rfl) (by kernel_rfl) (by kernel_rfl) (fun _ _ _ h => h) (Or.inl ⟨by kernel_rfl, ?hyq1⟩) hHeld ?restq1
      case hyq1 => intro w' hSw; (try dsimp only at hSw); go_simp; try with_reducible rfl
      simp only [Act.put]
      try dsimp only
      refine wpAnyF_take [22, 14, 12, 11, 3, 2] (by kernel_rfl) (i := 1) (v := ?vq2) rfl (by kernel_rfl) (by kernel_rfl) (by kernel_rfl) (fun _ _ _ h => h) (Or.inl ⟨by kernel_rfl, ?hyq2⟩) hHeld ?restq2
      case hyq2 => intro w' hSw; (try dsimp only at hSw); go_simp; try with_reducible rfl
      simp only [Act.put]
      try dsimp only
      refine wpAnyF_take [22, 14, 12, 11, 3] (by kernel_rfl) (i := 2) (v := ?vq3) rfl (by kernel_rfl) (by kernel_rfl) (by kernel_rfl) (fun _ _ _ h => h) (Or.inl ⟨by kernel_rfl, ?hyq3⟩) hHeld ?restq3
      case hyq3 => intro w' hSw; (try dsimp only at hSw); go_simp; try with_reducible rfl
      simp only [Act.put]
      try dsimp only
      refine wpAnyF_take [22, 14, 12, 11] (by kernel_rfl) (i := 3) (v := ?vq4) rfl (by kernel_rfl) (by kernel_rfl) (by kernel_rfl) (fun _ _ _ h => h) (Or.inl ⟨by kernel_rfl, ?hyq4⟩) hHeld ?restq4
      case hyq4 => intro w' hSw; (try dsimp only at hSw); go_simp; try with_reducible rfl
      simp only [Act.put]
      try dsimp only
      refine wpAnyF_take [22, 14, 12] (by kernel_rfl) (i := 4) (v := ?vq5) rfl (by kernel_rfl) (by kernel_rfl) (by kernel_rfl) (fun _ _ _ h => h) (Or.inl ⟨by kernel_rfl, ?hyq5⟩) hHeld ?restq5
      case hyq5 => intro w' hSw; (try dsimp only at hSw); go_simp; try with_reducible rfl
      simp only [Act.put]
      try dsimp only
      refine wpAnyF_take [22, 14, 12] (by kernel_rfl) (i := 5) (v := ?vq6) rfl (by kernel_rfl) (by kernel_rfl) (by kernel_rfl) (fun _ _ _ h => h) (Or.inl ⟨by kernel_rfl, ?hyq6⟩) hHeld ?restq6
      case hyq6 => intro w' hSw; (try dsimp only at hSw); go_simp; try with_reducible rfl
      simp only [Act.put]
      try dsimp only
      refine wpAnyF_take [22, 14, 12, 9, 8, 7] (by kernel_rfl) (i := 6) (v := ?vq7) rfl (by kernel_rfl) (by kernel_rfl) (by kernel_rfl) (fun _ _ _ h => h) (Or.inl ⟨by kernel_rfl, ?hyq7⟩) hHeld ?restq7
      case hyq7 => intro w' hSw; (try dsimp only at hSw); go_simp; try with_reducible rfl
      simp only [Act.put]
      try dsimp only
      refine wpAnyF_take [22, 14, 12, 9, 8] (by kernel_rfl) (i := 7) (v := ?vq8) rfl (by kernel_rfl) (by kernel_rfl) (by kernel_rfl) (fun _ _ _ h => h) (Or.inl ⟨by kernel_rfl, ?hyq8⟩) hHeld ?restq8
      case hyq8 => intro w' hSw; (try dsimp only at hSw); go_simp; try with_reducible rfl
      simp only [Act.put]
      try dsimp only
      refine wpAnyF_take [22, 14, 12, 9] (by kernel_rfl) (i := 8) (v := ?vq9) rfl (by kernel_rfl) (by kernel_rfl) (by kernel_rfl) (fun _ _ _ h => h) (Or.inl ⟨by kernel_rfl, ?hyq9⟩) hHeld ?restq9
      case hyq9 => intro w' hSw; (try dsimp only at hSw); go_simp; try with_reducible rfl
      simp only [Act.put]
      try dsimp only
      refine wpAnyF_take [22, 14, 12] (by kernel_rfl) (i := 9) (v := ?vq10) rfl (by kernel_rfl) (by kernel_rfl) (by kernel_rfl) (fun _ _ _ h => h) (Or.inl ⟨by kernel_rfl, ?hyq10⟩) hHeld ?restq10
      case hyq10 => intro w' hSw; (try dsimp only at hSw); go_simp; try with_reducible rfl
      simp only [Act.put]
      try dsimp only
      refine wpAnyF_take [22, 14, 12, 11] (by kernel_rfl) (i := 10) (v := ?vq11) rfl (by kernel_rfl) (by kernel_rfl) (by kernel_rfl) (fun _ _ _ h => h) (Or.inl ⟨by kernel_rfl, ?hyq11⟩) hHeld ?restq11
      case hyq11 => intro w' hSw; (try dsimp only at hSw); go_simp; try with_reducible rfl
      simp only [Act.put]
      try dsimp only
      refine wpAnyF_take [22, 14, 12] (by kernel_rfl) (i := 11) (v := ?vq12) rfl (by kernel_rfl) (by kernel_rfl) (by kernel_rfl) (fun _ _ _ h => h) (Or.inl ⟨by kernel_rfl, ?hyq12⟩) hHeld ?restq12
      case hyq12 => intro w' hSw; (try dsimp only at hSw); go_simp; try with_reducible rfl
      simp only [Act.put]
      try dsimp only
      refine wpAnyF_ready (rs := [12]) (by kernel_rfl) (by simp) ?_
      refine AllReadyF.cons rfl (fun K hK => ?_) AllReadyF.nil
      have mH := mtSt enc 281 w3.drew
      have eH := enSt enc
      go_simp
      refine (HSt.out w3.drew).mono ?_
      rintro e w4 ⟨rfl, hB4⟩
      have HB4 := hide_ (below_to ((Below.refl _ w3).drew) hB4)
      have hS4 := HS2.out w4 HB4.out
      clear hB4 mH eH
      go_simp
      refine hK.out _ _ (hS4) (fun hHeld => ?_)
      clear hK K
      refine wpAnyF_take [22, 14] (by kernel_rfl) (i := 13) (v := ?vq13) rfl (by kernel_rfl) (by kernel_rfl) (by kernel_rfl) (fun _ _ _ h => h) (Or.inl ⟨by kernel_rfl, ?hyq13⟩) hHeld ?restq13
      case hyq13 => intro w' hSw; (try dsimp only at hSw); go_simp; try with_reducible rfl
      simp only [Act.put]
      try dsimp only
      refine wpAnyF_take [22] (by kernel_rfl) (i := 14) (v := ?vq14) rfl (by kernel_rfl) (by kernel_rfl) (by kernel_rfl) (fun _ _ _ h => h) (Or.inl ⟨by kernel_rfl, ?hyq14⟩) hHeld ?restq14
      case hyq14 => intro w' hSw; (try dsimp only at hSw); go_simp; try with_reducible rfl
      simp only [Act.put]
      try dsimp only
      refine wpAnyF_take [22, 21] (by kernel_rfl) (i := 15) (v := undef) rfl (by kernel_rfl) (by kernel_rfl) (by kernel_rfl) (fun _ _ _ h => h) (Or.inr ⟨by kernel_rfl, rfl⟩) hHeld ?_
      simp only [Act.put]
      try dsimp only
      refine wpAnyF_take [22, 21, 20, 19, 18, 17] (by kernel_rfl) (i := 16) (v := undef) rfl (by kernel_rfl) (by kernel_rfl) (by kernel_rfl) (fun _ _ _ h => h) (Or.inr ⟨by kernel_rfl, rfl⟩) hHeld ?_
      simp only [Act.put]
      try dsimp only
      refine wpAnyF_take [22, 21, 20, 19, 18] (by kernel_rfl) (i := 17) (v := undef) rfl (by kernel_rfl) (by kernel_rfl) (by kernel_rfl) (fun _ _ _ h => h) (Or.inr ⟨by kernel_rfl, rfl⟩) hHeld ?_
      simp only [Act.put]
      try dsimp only
      refine wpAnyF_take [22, 21, 20, 19] (by kernel_rfl) (i := 18) (v := undef) rfl (by kernel_rfl) (by kernel_rfl) (by kernel_rfl) (fun _ _ _ h => h) (Or.inr ⟨by kernel_rfl, rfl⟩) hHeld ?_
      simp only [Act.put]
      try dsimp only
      refine wpAnyF_take [22, 21, 20] (by kernel_rfl) (i := 19) (v := undef) rfl (by kernel_rfl) (by kernel_rfl) (by kernel_rfl) (fun _ _ _ h => h) (Or.inr ⟨by kernel_rfl, rfl⟩) hHeld ?_
      simp only [Act.put]
      try dsimp only
      refine wpAnyF_take [22, 21] (by kernel_rfl) (i := 20) (v := undef) rfl (by kernel_rfl) (by kernel_rfl) (by kernel_rfl) (fun _ _ _ h => h) (Or.inr ⟨by kernel_rfl, rfl⟩) hHeld ?_
      simp only [Act.put]
      try dsimp only
      refine wpAnyF_take [22] (by kernel_rfl) (i := 21) (v := undef) rfl (by kernel_rfl) (by kernel_rfl) (by kernel_rfl) (fun _ _ _ h => h) (Or.inr ⟨by kernel_rfl, rfl⟩) hHeld ?_
      simp only [Act.put]
      try dsimp only
      refine wpAnyF_ready (rs := [22]) (by kernel_rfl) (by simp) ?_
      refine AllReadyF.last rfl (fun K hK => ?_)
      go_simp
      refine hK.out _ _ ?_
      clear hK K
      refine wpAnyF_done (by kernel_rfl) ?_ _
      go_wp2_with fail
      go_meet
      case rel => exact ⟨_, rfl, rfl, HB4⟩
    · refine wp_region_last 22 (fun w' => w'.cell? ⟨b, 0, none⟩ = some (.iface (mTy enc) (.agg #[])) ∧ w'.cell? ⟨b, 1, none⟩ = some (.slice (some ⟨bc, oc, none⟩) C.length cc) ∧ w'.cell? ⟨b, 2, none⟩ = some (.int .i64 r) ∧ w'.cell? ⟨a5, 0, none⟩ = some (.int .i64 x.op) ∧ w'.cell? ⟨a5, 1, none⟩ = some (.int .i64 x.a) ∧ w'.cell? ⟨a5, 2, none⟩ = some (.int .i64 x.b) ∧ w'.cell? ⟨a5, 3, none⟩ = some (.int .i64 x.c) ∧ w'.cell? ⟨a6, 0, none⟩ = some (.int .i64 s.pl) ∧ w'.cell? ⟨a6, 1, none⟩ = some (.int .u64 (s.ki : Int)) ∧ w'.cell? ⟨a6, 2, none⟩ = some (.int .i64 s.tb) ∧ w'.cell? ⟨a6, 3, none⟩ = some (.int .i64 s.pa) ∧ w'.cell? ⟨a6, 4, none⟩ = some (.int .i64 s.fr) ∧ w'.cell? ⟨a6, 5, none⟩ = some (.int .i64 s.le) ∧ w'.cell? ⟨a6, 6, none⟩ = some (.bool s.su)) (by kernel_rfl) (HS2.out _ (Below.refl _ _).drew) (fun hHeld => ?_)
      refine wpAnyF_take [22, 14, 12, 11, 3, 2, 1] (by kernel_rfl) (i := 0) (v := ?vr1) rfl (by kernel_rfl) (by kernel_rfl) (by kernel_rfl) (fun _ _ _ h => h) (Or.inl ⟨by kernel_rfl, ?hyr1⟩) hHeld ?restr1
      case hyr1 => intro w' hSw; (try dsimp only at hSw); go_simp; try with_reducible rfl
      simp only [Act.put]
      try dsimp only
      refine wpAnyF_take [22, 14, 12, 11, 3, 2] (by kernel_rfl) (i := 1) (v := ?vr2) rfl (by kernel_rfl) (by kernel_rfl) (by kernel_rfl) (fun _ _ _ h => h) (Or.inl ⟨by kernel_rfl, ?hyr2⟩) hHeld ?restr2
      case hyr2 => intro w' hSw; (try dsimp only at hSw); go_simp; try with_reducible rfl
      simp only [Act.put]
      try dsimp only
      refine wpAnyF_take [22, 14, 12, 11, 3] (by kernel_rfl) (i := 2) (v := ?vr3) rfl (by kernel_rfl) (by kernel_rfl) (by kernel_rfl) (fun _ _ _ h => h) (Or.inl ⟨by kernel_rfl, ?hyr3⟩) hHeld ?restr3
      case hyr3 => intro w' hSw; (try dsimp only at hSw); go_simp; try with_reducible rfl
      simp only [Act.put]
      try dsimp only
      refine wpAnyF_take [22, 14, 12, 11] (by kernel_rfl) (i := 3) (v := ?vr4) rfl (by kernel_rfl) (by kernel_rfl) (by kernel_rfl) (fun _ _ _ h => h) (Or.inl ⟨by kernel_rfl, ?hyr4⟩) hHeld ?restr4
      case hyr4 => intro w' hSw; (try dsimp only at hSw); go_simp; try with_reducible rfl
      simp only [Act.put]
      try dsimp only
      refine wpAnyF_take [22, 14, 12] (by kernel_rfl) (i := 4) (v := ?vr5) rfl (by kernel_rfl) (by kernel_rfl) (by kernel_rfl) (fun _ _ _ h => h) (Or.inl ⟨by kernel_rfl, ?hyr5⟩) hHeld ?restr5
      case hyr5 => intro w' hSw; (try dsimp only at hSw); go_simp; try with_reducible rfl
      simp only [Act.put]
      try dsimp only
      refine wpAnyF_take [22, 14, 12] (by kernel_rfl) (i := 5) (v := ?vr6) rfl (by kernel_rfl) (by kernel_rfl) (by kernel_rfl) (fun _ _ _ h => h) (Or.inl ⟨by kernel_rfl, ?hyr6⟩) hHeld ?restr6
      case hyr6 => intro w' hSw; (try dsimp only at hSw); go_simp; try with_reducible rfl
      simp only [Act.put]
      try dsimp only
      refine wpAnyF_take [22, 14, 12, 9, 8, 7] (by kernel_rfl) (i := 6) (v := ?vr7) rfl (by kernel_rfl) (by kernel_rfl) (by kernel_rfl) (fun _ _ _ h => h) (Or.inl ⟨by kernel_rfl, ?hyr7⟩) hHeld ?restr7
      case hyr7 => intro w' hSw; (try dsimp only at hSw); go_simp; try with_reducible rfl
      simp only [Act.put]
      try dsimp only
      refine wpAnyF_take [22, 14, 12, 9, 8] (by kernel_rfl) (i := 7) (v := ?vr8) rfl (by kernel_rfl) (by kernel_rfl) (by kernel_rfl) (fun _ _ _ h => h) (Or.inl ⟨by kernel_rfl, ?hyr8⟩) hHeld ?restr8
      case hyr8 => intro w' hSw; (try dsimp only at hSw); go_simp; try with_reducible rfl
      simp only [Act.put]
      try dsimp only
      refine wpAnyF_take [22, 14, 12, 9] (by kernel_rfl) (i := 8) (v := ?vr9) rfl (by kernel_rfl) (by kernel_rfl) (by kernel_rfl) (fun _ _ _ h => h) (Or.inl ⟨by kernel_rfl, ?hyr9⟩) hHeld ?restr9
      case hyr9 => intro w' hSw; (try dsimp only at hSw); go_simp; try with_reducible rfl
      simp only [Act.put]
      try dsimp only
      refine wpAnyF_take [22, 14, 12] (by kernel_rfl) (i := 9) (v := ?vr10) rfl (by kernel_rfl) (by kernel_rfl) (by kernel_rfl) (fun _ _ _ h => h) (Or.inl ⟨by kernel_rfl, ?hyr10⟩) hHeld ?restr10
      case hyr10 => intro w' hSw; (try dsimp only at hSw); go_simp; try with_reducible rfl
      simp only [Act.put]
      try dsimp only
      refine wpAnyF_take [22, 14, 12, 11] (by kernel_rfl) (i := 10) (v := ?vr11) rfl (by kernel_rfl) (by kernel_rfl) (by kernel_rfl) (fun _ _ _ h => h) (Or.inl ⟨by kernel_rfl, ?hyr11⟩) hHeld ?restr11
      case hyr11 => intro w' hSw; (try dsimp only at hSw); go_simp; try with_reducible rfl
      simp only [Act.put]
      try dsimp only
      refine wpAnyF_take [22, 14, 12] (by kernel_rfl) (i := 11) (v := ?vr12) rfl (by kernel_rfl) (by kernel_rfl) (by kernel_rfl) (fun _ _ _ h => h) (Or.inl ⟨by kernel_rfl, ?hyr12⟩) hHeld ?restr12
      case hyr12 => intro w' hSw; (try dsimp only at hSw); go_simp; try with_reducible rfl
      simp only [Act.put]
      try dsimp only
      refine wpAnyF_ready (rs := [12]) (by kernel_rfl) (by simp) ?_
      refine AllReadyF.cons rfl (fun K hK => ?_) AllReadyF.nil
      have mH := mtSt enc 281 w3.drew
      have eH := enSt enc
      go_simp
      refine (HSt.out w3.drew).mono ?_
      rintro e w4 ⟨rfl, hB4⟩
      have HB4 := hide_ (below_to ((Below.refl _ w3).drew) hB4)
      have hS4 := HS2.out w4 HB4.out
      clear hB4 mH eH
      go_simp
      refine hK.out _ _ (hS4) (fun hHeld => ?_)
      clear hK K
      refine wpAnyF_take [22, 14] (by kernel_rfl) (i := 13) (v := ?vr13) rfl (by kernel_rfl) (by kernel_rfl) (by kernel_rfl) (fun _ _ _ h => h) (Or.inl ⟨by kernel_rfl, ?hyr13⟩) hHeld ?restr13
      case hyr13 => intro w' hSw; (try dsimp only at hSw); go_simp; try with_reducible rfl
      simp only [Act.put]
      try dsimp only
      refine wpAnyF_take [22] (by kernel_rfl) (i := 14) (v := ?vr14) rfl (by kernel_rfl) (by kernel_rfl) (by kernel_rfl) (fun _ _ _ h => h) (Or.inl ⟨by kernel_rfl, ?hyr14⟩) hHeld ?restr14
      case hyr14 => intro w' hSw; (try dsimp only at hSw); go_simp; try with_reducible rfl
      simp only [Act.put]
      try dsimp only
      refine wpAnyF_take [22, 21] (by kernel_rfl) (i := 15) (v := ?vr15) rfl (by kernel_rfl) (by kernel_rfl) (by kernel_rfl) (fun _ _ _ h => h) (Or.inl ⟨by kernel_rfl, ?hyr15⟩) hHeld ?restr15
      case hyr15 => intro w' hSw; (try dsimp only at hSw); go_simp; try with_reducible rfl
      simp only [Act.put]
      try dsimp only
      refine wpAnyF_take [22, 21, 20, 19, 18, 17] (by kernel_rfl) (i := 16) (v := ?vr16) rfl (by kernel_rfl) (by kernel_rfl) (by kernel_rfl) (fun _ _ _ h => h) (Or.inl ⟨by kernel_rfl, ?hyr16⟩) hHeld ?restr16
      case hyr16 => intro w' hSw; (try dsimp only at hSw); go_simp; try with_reducible rfl
      simp only [Act.put]
      try dsimp only
      refine wpAnyF_take [22, 21, 20, 19, 18] (by kernel_rfl) (i := 17) (v := ?vr17) rfl (by kernel_rfl) (by kernel_rfl) (by kernel_rfl) (fun _ _ _ h => h) (Or.inl ⟨by kernel_rfl, ?hyr17⟩) hHeld ?restr17
      case hyr17 => intro w' hSw; (try dsimp only at hSw); go_simp; try with_reducible rfl
      simp only [Act.put]
      try dsimp only
      refine wpAnyF_take [22, 21, 20, 19] (by kernel_rfl) (i := 18) (v := ?vr18) rfl (by kernel_rfl) (by kernel_rfl) (by kernel_rfl) (fun _ _ _ h => h) (Or.inl ⟨by kernel_rfl, ?hyr18⟩) hHeld ?restr18
      case hyr18 => intro w' hSw; (try dsimp only at hSw); go_simp; try with_reducible rfl
      simp only [Act.put]
      try dsimp only
      refine wpAnyF_take [22, 21, 20] (by kernel_rfl) (i := 19) (v := ?vr19) rfl (by kernel_rfl) (by kernel_rfl) (by kernel_rfl) (fun _ _ _ h => h) (Or.inl ⟨by kernel_rfl, ?hyr19⟩) hHeld ?restr19
      case hyr19 => intro w' hSw; (try dsimp only at hSw); go_simp; try with_reducible rfl
      simp only [Act.put]
      try dsimp only
      refine wpAnyF_take [22, 21] (by kernel_rfl) (i := 20) (v := ?vr20) rfl (by kernel_rfl) (by kernel_rfl) (by kernel_rfl) (fun _ _ _ h => h) (Or.inl ⟨by kernel_rfl, ?hyr20⟩) hHeld ?restr20
      case hyr20 => intro w' hSw; (try dsimp only at hSw); go_simp; try with_reducible rfl
      simp only [Act.put]
      try dsimp only
      refine wpAnyF_ready (rs := [21]) (by kernel_rfl) (by simp) ?_
      refine AllReadyF.cons rfl (fun K hK => ?_) AllReadyF.nil
      go_simp
      refine (HCo.out w4 HB4.out).mono ?_
      rintro e w5 ⟨rfl, rfl⟩
      go_simp
      refine hK.out _ _ (hS4) (fun hHeld => ?_)
      clear hK K
      refine wpAnyF_ready (rs := [22]) (by kernel_rfl) (by simp) ?_
      refine AllReadyF.last rfl (fun K hK => ?_)
      go_simp
      refine hK.out _ _ ?_
      clear hK K
      refine wpAnyF_done (by kernel_rfl) ?_ _
      go_wp2_with fail
      go_meet
      case rel => exact ⟨_, rfl, rfl, HB4⟩
  case rest =>
  obtain ⟨w4, rfl, rfl, HB4⟩ := hcut
  have HL4 := hide_ (HL3.out.later HB4.out)
  have HX : Hid ((q = false ∨ d = true) → LoTo w0 b gs bc oc cc enc C r R (.returned (.int .i64 (k : Int))) w4) := hide_ (fun hqd => by
    have hr := HR.out
    rw [Hq.out, if_pos (by rcases hqd with e | e; exact .inl e; exact .inr (of_decide_eq_true (Hd.out.trans e)))] at hr
    rw [← hr]
    exact ⟨vp, rfl, HL4.out⟩)
  cases q
  · have HX1 := hide_ (HX.out (.inl rfl))
    clear HX HR
    simp only [Bool.not_false, Bool.true_or]
    go_wp2_with fail
    go_ret
    exact HX1.out
  cases d
  case true =>
    have HX1 := hide_ (HX.out (.inr rfl))
    clear HX HR
    simp only [Bool.not_true, Bool.false_or]
    go_wp2_with fail
    go_ret
    exact HX1.out
  case false =>
  simp only [Bool.not_true, Bool.false_or]
  have HR2 : Hid (handsP enc C r s x ws 0 S P = R) := hide_ (by
    have hr := HR.out
    rw [Hq.out, if_neg (by intro h; rcases h with e | e; cases e; exact absurd e (of_decide_eq_false Hd.out))] at hr
    exact hr)
  have HY : Hid (∀ (j : Nat) (y : Int), ws[j]? = some y → 0 ≤ y ∧ y < (C.length : Int)) := hide_ (fun j y hy => by
    have h1 := hW.out k hk y (by rw [Hws.out]; exact List.mem_of_getElem? hy)
    have h2 : y ≠ (C.length : Int) := fun e => (of_decide_eq_false Hd.out) (e ▸ List.mem_of_getElem? hy)
    omega)
  have HO4 := hide_ (HO.out.later HB4.out)
  have K54 := hide_ (K5.out.later HB4.out)
  have K64 := hide_ (K6.out.later HB4.out)
  have Hmh := hide_ (fun way => mHd_ok HsO.out Hx.out Hq.out way)
  clear HX HR HSt HCo HS2 HL3 HO K5 K6
  go_wp2_with fail
  go_loopw [56] (fun x56 wr => ∃ (j : Nat) (Sj : List St) (Pj : List Int) (vj : Value), j ≤ n ∧ x56 = .int .i64 (j : Int) ∧ Hid (handsP enc C r s x (ws.drop j) j Sj Pj = R) ∧ Hid (LkS w0 wr b gs bc oc cc enc C r Sj Pj vj) ∧ Hid (Fm w4 wr gs b vp vj) ∧ Hid (SAll Sj) ∧ Hid (Pnd C.length Sj Pj) ∧ Hid (msr Sj Pj ≤ 2 * C.length + 2)) (fun x56 _ => n - (intOf x56).toNat)
  case atStart => exact ⟨0, S, P, vp, by omega, rfl, HR2, HL4, hide_ (Fm.of_below (Below.refl _ _)), hS, hN, hM⟩
  case round =>
    clear HR2 HL4 hS hN hM hp
    obtain ⟨j, Sj, Pj, vj, hj, rfl, HRj, HLq, HFq, HSj, HNj, HMj⟩ := hrel
    generalize wr = wq at *
    have hnS : Hid (∀ g, w.heap.size ≤ g → ¬ (g = gs ∨ g = b ∨ vp.ownBlock = some g)) := hide_ (fun g hg e => by
      obtain ⟨g1, g2, g3⟩ := Hgs.out
      rcases e with e | e | e
      · omega
      · omega
      · have := g3 g e; omega)
    have K5q := hide_ (K54.out.upd HFq.out.upd (hnS.out a5 HGa5.out))
    have K6q := hide_ (K64.out.upd HFq.out.upd (hnS.out a6 HGa6.out))
    have HOq := hide_ (HO4.out.upd HFq.out.upd (fun g e => hnS.out g (HO4.out.lies e).1))
    by_cases hlt : j < n
    · have hlt' : (j : Int) < (n : Int) := by omega
      have hlw : j < ws.length := by rw [Hn.out]; exact hlt
      obtain ⟨y, hy⟩ : ∃ y, ws[j]? = some y := ⟨_, List.getElem?_eq_getElem hlw⟩
      obtain ⟨hy0, hy1⟩ := HY.out j y hy
      obtain ⟨m, rfl⟩ := Int.eq_ofNat_of_zero_le hy0
      have hmC : m < C.length := by omega
      have hdr : ws.drop j = (m : Int) :: ws.drop (j + 1) := by
        rw [List.drop_eq_getElem_cons hlw]
        rw [List.getElem?_eq_getElem hlw] at hy
        injection hy with hy
        rw [hy]
      have hrj := HRj.out
      rw [hdr, handsP] at hrj
      rw [Int.toNat_natCast] at hrj
      have HRj2 := hide_ hrj
      obtain ⟨gv, cv', hv', -, -, -⟩ := HOq.out.open (by omega)
      rw [Hn.out] at hv'
      injection hv' with hv1 _ hv2
      subst hv1 hv2
      obtain ⟨cy, -⟩ := HOq.out.cellH (i := j) hlw
      have hyA : hAt ws j = (m : Int) := by unfold hAt; simp [List.getD, hy]
      rw [hyA] at cy
      have HHd : Hid (∀ w, Calls Tryz.prog (fHd enc) #[.agg #[], stv s, inv x, .int .i64 (j : Int)] w fun e w' => e = .returned (stv (mHd enc s x (j : Int))) ∧ Below w.heap.size w w') := hide_ (fun w => mhands_any enc s x (j : Int) w Hx.out HsO.out)
      have HPj : Hid (Pj.length ≤ 3000000) := hide_ (by have h1 := HMj.out; unfold msr at h1; have := hC.out.nc; omega)
      obtain ⟨t, ht⟩ : ∃ t, mHd enc s x (j : Int) = t := ⟨_, rfl⟩
      have HtO : Hid (SOk t) := hide_ (by rw [← ht]; exact Hmh.out _)
      have Htp : Hid (t.pl ≠ 0) := hide_ (by rw [← ht]; exact mHd_pl enc Hpl.out x _)
      rw [ht] at HHd HRj2
      have HHa : Hid (∀ w6, Below wq.heap.size wq w6 → Calls Tryz.prog 51 #[.pointer (some ⟨b, 0, none⟩), .int .i64 (m : Int), stv t] w6 fun e w' => HdTo w0 w6 vj b gs bc oc cc enc C r Sj Pj m t e w') := hide_ (fun w6 hB => handed_any w0 b gs bc oc cc enc C r Sj Pj vj m t w6 hmC hcc hcl hC HtO (hide_ (fun i _ => HSj.out i)) HPj.out (hide_ (HLq.out.later hB)))
      have hnq : Hid (∀ g, w.heap.size ≤ g → g < w4.heap.size → ¬ (g = gs ∨ g = b ∨ vj.ownBlock = some g)) := hide_ (fun g hg hg4 e => by
        rcases e with e | e | e
        · exact hnS.out g hg (.inl e)
        · exact hnS.out g hg (.inr (.inl e))
        · rcases HFq.out.own g e with e | e
          · exact hnS.out g hg (.inr (.inr e))
          · omega)
      have HS7 : Hid (∀ w6, w6.cell? ⟨b, 0, none⟩ = some (.iface (mTy enc) (.agg #[])) → Upd (fun q => q = gs ∨ q = b ∨ vj.ownBlock = some q) wq w6 → (fun w' => w'.cell? ⟨b, 0, none⟩ = some (.iface (mTy enc) (.agg #[])) ∧ w'.cell? ⟨a5, 0, none⟩ = some (.int .i64 x.op) ∧ w'.cell? ⟨a5, 1, none⟩ = some (.int .i64 x.a) ∧ w'.cell? ⟨a5, 2, none⟩ = some (.int .i64 x.b) ∧ w'.cell? ⟨a5, 3, none⟩ = some (.int .i64 x.c) ∧ w'.cell? ⟨a6, 0, none⟩ = some (.int .i64 s.pl) ∧ w'.cell? ⟨a6, 1, none⟩ = some (.int .u64 (s.ki : Int)) ∧ w'.cell? ⟨a6, 2, none⟩ = some (.int .i64 s.tb) ∧ w'.cell? ⟨a6, 3, none⟩ = some (.int .i64 s.pa) ∧ w'.cell? ⟨a6, 4, none⟩ = some (.int .i64 s.fr) ∧ w'.cell? ⟨a6, 5, none⟩ = some (.int .i64 s.le) ∧ w'.cell? ⟨a6, 6, none⟩ = some (.bool s.su)) w6) := hide_ (fun w6 c hu => by
        have a1 := (K6q.out.upd hu (hnq.out a6 HGa6.out K64.out.lt)).cs
        have a2 := (K5q.out.upd hu (hnq.out a5 HGa5.out K54.out.lt)).ci
        exact ⟨c, a2.1, a2.2.1, a2.2.2.1, a2.2.2.2, a1⟩)
      have Hc0 : Hid (∀ w6, Below wq.heap.size wq w6 → w6.cell? ⟨b, 0, none⟩ = some (.iface (mTy enc) (.agg #[]))) := hide_ (fun w6 hB => (HLq.out.later hB).cells.1)
      clear ht hrj hdr hy hyA HRj hy0 hy1
      go_upto_region 7 with fail
      go_cut [72] from 61 to 72 (fun x72 wc => ∃ (w8 : World), w8 = wc ∧ x72 = .bool (!(handP enc C r Sj Pj m t).1) ∧ ∃ v7, Hid (LkS w0 w8 b gs bc oc cc enc C r (handP enc C r Sj Pj m t).2.1 (handP enc C r Sj Pj m t).2.2 v7) ∧ Hid (Fm wq w8 gs b vj v7))
      case first =>
        refine wp_region_last 11 (fun w' => w'.cell? ⟨b, 0, none⟩ = some (.iface (mTy enc) (.agg #[])) ∧ w'.cell? ⟨a5, 0, none⟩ = some (.int .i64 x.op) ∧ w'.cell? ⟨a5, 1, none⟩ = some (.int .i64 x.a) ∧ w'.cell? ⟨a5, 2, none⟩ = some (.int .i64 x.b) ∧ w'.cell? ⟨a5, 3, none⟩ = some (.int .i64 x.c) ∧ w'.cell? ⟨a6, 0, none⟩ = some (.int .i64 s.pl) ∧ w'.cell? ⟨a6, 1, none⟩ = some (.int .u64 (s.ki : Int)) ∧ w'.cell? ⟨a6, 2, none⟩ = some (.int .i64 s.tb) ∧ w'.cell? ⟨a6, 3, none⟩ = some (.int .i64 s.pa) ∧ w'.cell? ⟨a6, 4, none⟩ = some (.int .i64 s.fr) ∧ w'.cell? ⟨a6, 5, none⟩ = some (.int .i64 s.le) ∧ w'.cell? ⟨a6, 6, none⟩ = some (.bool s.su)) (by kernel_rfl) (HS7.out _ (Hc0.out _ (Below.refl _ _).drew) (Upd.of_below (Below.refl _ _).drew)) (fun hHeld => ?_)
        refine wpAnyF_take [11, 10] (by kernel_rfl) (i := 0) (v := ?vs1) rfl (by kernel_rfl) (by kernel_rfl) (by kernel_rfl) (fun _ _ _ h => h) (Or.inl ⟨by kernel_rfl, ?hys1⟩) hHeld ?rests1
        case hys1 => intro w' hSw; (try dsimp only at hSw); go_simp; try with_reducible rfl
        simp only [Act.put]
        try dsimp only
        refine wpAnyF_take [11, 10] (by kernel_rfl) (i := 1) (v := ?vs2) rfl (by kernel_rfl) (by kernel_rfl) (by kernel_rfl) (fun _ _ _ h => h) (Or.inl ⟨by kernel_rfl, ?hys2⟩) hHeld ?rests2
        case hys2 => intro w' hSw; (try dsimp only at hSw); go_simp; try with_reducible rfl
        simp only [Act.put]
        try dsimp only
        refine wpAnyF_take [11, 10, 9, 5, 4, 3] (by kernel_rfl) (i := 2) (v := ?vs3) rfl (by kernel_rfl) (by kernel_rfl) (by kernel_rfl) (fun _ _ _ h => h) (Or.inl ⟨by kernel_rfl, ?hys3⟩) hHeld ?rests3
        case hys3 => intro w' hSw; (try dsimp only at hSw); go_simp; try with_reducible rfl
        simp only [Act.put]
        try dsimp only
        refine wpAnyF_take [11, 10, 9, 5, 4] (by kernel_rfl) (i := 3) (v := ?vs4) rfl (by kernel_rfl) (by kernel_rfl) (by kernel_rfl) (fun _ _ _ h => h) (Or.inl ⟨by kernel_rfl, ?hys4⟩) hHeld ?rests4
        case hys4 => intro w' hSw; (try dsimp only at hSw); go_simp; try with_reducible rfl
        simp only [Act.put]
        try dsimp only
        refine wpAnyF_take [11, 10, 9, 5] (by kernel_rfl) (i := 4) (v := ?vs5) rfl (by kernel_rfl) (by kernel_rfl) (by kernel_rfl) (fun _ _ _ h => h) (Or.inl ⟨by kernel_rfl, ?hys5⟩) hHeld ?rests5
        case hys5 => intro w' hSw; (try dsimp only at hSw); go_simp; try with_reducible rfl
        simp only [Act.put]
        try dsimp only
        refine wpAnyF_take [11, 10, 9] (by kernel_rfl) (i := 5) (v := ?vs6) rfl (by kernel_rfl) (by kernel_rfl) (by kernel_rfl) (fun _ _ _ h => h) (Or.inl ⟨by kernel_rfl, ?hys6⟩) hHeld ?rests6
        case hys6 => intro w' hSw; (try dsimp only at hSw); go_simp; try with_reducible rfl
        simp only [Act.put]
        try dsimp only
        refine wpAnyF_take [11, 10, 9] (by kernel_rfl) (i := 6) (v := ?vs7) rfl (by kernel_rfl) (by kernel_rfl) (by kernel_rfl) (fun _ _ _ h => h) (Or.inl ⟨by kernel_rfl, ?hys7⟩) hHeld ?rests7
        case hys7 => intro w' hSw; (try dsimp only at hSw); go_simp; try with_reducible rfl
        simp only [Act.put]
        try dsimp only
        refine wpAnyF_take [11, 10, 9] (by kernel_rfl) (i := 7) (v := ?vs8) rfl (by kernel_rfl) (by kernel_rfl) (by kernel_rfl) (fun _ _ _ h => h) (Or.inl ⟨by kernel_rfl, ?hys8⟩) hHeld ?rests8
        case hys8 => intro w' hSw; (try dsimp only at hSw); go_simp; try with_reducible rfl
        simp only [Act.put]
        try dsimp only
        refine wpAnyF_take [11, 10, 9] (by kernel_rfl) (i := 8) (v := ?vs9) rfl (by kernel_rfl) (by kernel_rfl) (by kernel_rfl) (fun _ _ _ h => h) (Or.inl ⟨by kernel_rfl, ?hys9⟩) hHeld ?rests9
        case hys9 => intro w' hSw; (try dsimp only at hSw); go_simp; try with_reducible rfl
        simp only [Act.put]
        try dsimp only
        refine wpAnyF_ready (rs := [9]) (by kernel_rfl) (by simp) ?_
        refine AllReadyF.cons rfl (fun K hK => ?_) AllReadyF.nil
        have mH := mtHd enc 281 wq.drew
        have eH := enHd enc
        go_simp
        refine (HHd.out wq.drew).mono ?_
        rintro e w6 ⟨rfl, hB6⟩
        have HB6 := hide_ (below_to ((Below.refl _ wq).drew) hB6)
        have hS6 := HS7.out w6 (Hc0.out w6 HB6.out) (Upd.of_below HB6.out)
        clear hB6 mH eH
        go_simp
        refine hK.out _ _ (hS6) (fun hHeld => ?_)
        clear hK K
        refine wpAnyF_ready (rs := [10]) (by kernel_rfl) (by simp) ?_
        refine AllReadyF.cons rfl (fun K hK => ?_) AllReadyF.nil
        go_simp
        refine (HHa.out w6 HB6.out).mono ?_
        rintro e w7 hT
        obtain ⟨vp7, rfl, hL7, hF7⟩ := hT
        have HL7 := hide_ hL7
        have HF7 := hide_ ((Fm.of_below HB6.out).trans hF7)
        have hS7 := HS7.out w7 HL7.out.cells.1 HF7.out.upd
        clear hL7 hF7
        go_simp
        refine hK.out _ _ (hS7) (fun hHeld => ?_)
        clear hK K
        refine wpAnyF_ready (rs := [11]) (by kernel_rfl) (by simp) ?_
        refine AllReadyF.last rfl (fun K hK => ?_)
        go_simp
        refine hK.out _ _ ?_
        clear hK K
        refine wpAnyF_done (by kernel_rfl) ?_ _
        go_wp2_with fail
        go_meet
        case rel => exact ⟨_, rfl, rfl, _, HL7, HF7⟩
      case rest =>
        obtain ⟨w8, rfl, rfl, v7, HL8, HF8⟩ := hcut
        have HOK := hide_ (handP_ok (enc := enc) (C := C) (r := r) HNj.out hmC Htp.out)
        have HSO := hide_ (handP_sok (enc := enc) (C := C) (r := r) (P := Pj) HSj.out m HtO.out)
        have HNO := hide_ (handP_no (enc := enc) (C := C) (r := r) (S := Sj) (P := Pj) (k := m) (s := t))
        generalize handP enc C r Sj Pj m t = Z at *
        obtain ⟨z, S2, P2⟩ := Z
        cases z
        · have HX2 : Hid (LoTo w0 b gs bc oc cc enc C r R (.returned (.int .i64 (m : Int))) w8) := hide_ (by
            have h1 := HNO.out rfl
            have h2 := HRj2.out
            rw [if_neg (by simp)] at h2
            rw [← h2]
            refine ⟨v7, rfl, ?_⟩
            have h3 := HL8.out
            simp only [Prod.mk.injEq] at h1
            rw [← h1.1, ← h1.2]
            exact h3)
          clear HOK HSO HNO HRj2
          go_wp2_with fail
          go_ret
          exact HX2.out
        · have HR8 : Hid (handsP enc C r s x (ws.drop (j + 1)) (j + 1) S2 P2 = R) := hide_ (by
            have h2 := HRj2.out
            rw [if_pos rfl] at h2
            exact h2)
          have HN8 : Hid (Pnd C.length S2 P2) := hide_ HOK.out.1
          have HM8 : Hid (msr S2 P2 ≤ 2 * C.length + 2) := hide_ (Nat.le_trans HOK.out.2.1 HMj.out)
          have HS8 : Hid (SAll S2) := HSO
          have HF9 := hide_ (HFq.out.trans HF8.out)
          clear HOK HSO HNO HRj2
          go_wp2_with fail
          go_roundw
          case rel => exact ⟨j + 1, S2, P2, v7, by omega, by go_num, HR8, HL8, HF9, HS8, HN8, HM8⟩
          case measure => simp [intOf]; omega
    · have hlt' : ¬ ((j : Int) < (n : Int)) := by omega
      have HX2 : Hid (LoTo w0 b gs bc oc cc enc C r R (.returned (.int .i64 1048576)) wq) := hide_ (by
        have h2 := HRj.out
        rw [List.drop_of_length_le (by rw [Hn.out]; omega), handsP] at h2
        rw [← h2]
        exact ⟨vj, rfl, HLq.out⟩)
      go_wp2_with fail
      go_ret
      exact HX2.out
end Go.Proofs.YtjamfbpdepahnaaGreat
