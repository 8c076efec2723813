import Derived.Test.YtjamfbpdepahnaaGreatPart37
namespace Go.Proofs.YtjamfbpdepahnaaGreat
open Go.RowKit
set_option linter.unusedVariables false
set_option linter.unusedSimpArgs false
def lsP (rg : List Bool) (ld : List Int) (ip : Nat → Bool) (l : Int) (x : Int) : Int :=
  if ip x.toNat = true then min (if qAt rg x.toNat = true then min l x else l) (hAt ld (x.toNat + 1)) else (if qAt rg x.toNat = true then min l x else l)
def edW (C : List In) (S : List St) (k : Nat) : List Int := if cameP S k = true then waysP C k else []
def seF (ed : Nat → List Int) (n : Nat) (rg : List Bool) (ld : List Int) (ip : Nat → Bool) : List Int → List Bool → Int
  | [], _ => 1048576
  | e :: es, s => if (spF ed (tot ed s n + 2) [e] s []).1.foldl (lsP rg ld ip) (hAt ld e.toNat) ≠ 1048576 then (spF ed (tot ed s n + 2) [e] s []).1.foldl (lsP rg ld ip) (hAt ld e.toNat) else seF ed n rg ld ip es (spF ed (tot ed s n + 2) [e] s []).2
def quP (C : List In) (E : List Int) (S : List St) : List Bool := quietP C E S C.length (List.replicate C.length false)
def bkP (C : List In) (E : List Int) (S : List St) : List (List Int) := revF (bareP C E S (quP C E S)) S C.length 0 (List.replicate C.length [])
def rgP (C : List In) (E : List Int) (S : List St) : List Bool := rgF (uA (bkP C E S)) C.length (fnO (edB C E S (quP C E S)) S C.length C.length 0 (List.replicate C.length false) [])
def ldP (C : List In) (E : List Int) (S : List St) : List Int := ldF (uA (bkP C E S)) (idleP C E S (quP C E S)) C.length C.length 0 (List.replicate C.length false) (List.replicate C.length 1048576)
def secondP (C : List In) (E : List Int) (S : List St) : Int := seF (edW C S) C.length (rgP C E S) (ldP C E S) (idleP C E S (quP C E S)) E (List.replicate C.length false)
def putP (w : World) (g : Nat) (v0 v1 v2 v3 v4 v5 : Value) : World := (((((w.setCell ⟨g, 0, none⟩ v0).setCell ⟨g, 1, none⟩ v1).setCell ⟨g, 2, none⟩ v2).setCell ⟨g, 3, none⟩ v3).setCell ⟨g, 4, none⟩ v4).setCell ⟨g, 5, none⟩ v5
theorem Blk.putP {w : World} {g : Nat} {t : TypeId} {u0 u1 u2 u3 u4 u5 : Value} (h : Blk w g t [u0, u1, u2, u3, u4, u5]) (v0 v1 v2 v3 v4 v5 : Value) : Blk (Go.Proofs.YtjamfbpdepahnaaGreat.putP w g v0 v1 v2 v3 v4 v5) g t [v0, v1, v2, v3, v4, v5] := by
  have := (((((h.set 0 v0).set 1 v1).set 2 v2).set 3 v3).set 4 v4).set 5 v5
  simpa [Go.Proofs.YtjamfbpdepahnaaGreat.putP] using this
theorem Blk.putPo {w : World} {h : Nat} {t : TypeId} {xs : List Value} (k : Blk w h t xs) (g : Nat) (v0 v1 v2 v3 v4 v5 : Value) (e : h ≠ g) : Blk (Go.Proofs.YtjamfbpdepahnaaGreat.putP w g v0 v1 v2 v3 v4 v5) h t xs := by
  unfold Go.Proofs.YtjamfbpdepahnaaGreat.putP
  exact (((((k.other _ _ e).other _ _ e).other _ _ e).other _ _ e).other _ _ e).other _ _ e
theorem below_putP {B : Nat} {w w' : World} (h : Below B w w') (g : Nat) (v0 v1 v2 v3 v4 v5 : Value) (hb : B ≤ g) : Below B w (putP w' g v0 v1 v2 v3 v4 v5) := by
  unfold putP
  exact below_set (below_set (below_set (below_set (below_set (below_set h _ _ _ hb) _ _ _ hb) _ _ _ hb) _ _ _ hb) _ _ _ hb) _ _ _ hb
theorem PtX.setB {w0 w : World} {b cc ce gs gq : Nat} {ac ae : Option Addr} {enc : Bool} {C : List In} {E : List Int} {S : List St} {Q : List Bool} {vb : Value} (h : PtX w0 w b cc ce gs gq ac ae enc C E S Q vb) (u : Value) : PtX w0 (w.setCell ⟨b, 5, none⟩ u) b cc ce gs gq ac ae enc C E S Q u ∧ Upd (fun q => q = b) w (w.setCell ⟨b, 5, none⟩ u) := by
  have hu : Upd (fun q => q = b) w (w.setCell ⟨b, 5, none⟩ u) := (Upd.refl _ w).set _ _ (.inl rfl)
  have ho := below_to2 h.old hu (fun q e => by rw [e]; exact h.hb)
  have hbs : gs ≠ b := fun e => absurd (blk_type (e ▸ h.p.st) h.p.blk) (by decide)
  have hbq : gq ≠ b := fun e => h.bq e.symm
  exact ⟨⟨⟨h.p.blk.set 5 u, h.code0.later ho, h.ent0.later ho, h.p.st.upd hu hbs, h.p.len, h.p.qt.upd hu hbq, h.p.qlen⟩, ho, h.code0, h.ent0, h.hq, h.hb⟩, hu⟩
theorem idle_next {C : List In} {E : List Int} {S : List St} {Q : List Bool} {k : Nat} (hi : cameP S k = true → Inn C k) (h : idleP C E S Q k = true) : k + 1 < C.length := by
  unfold idleP at h
  simp only [Bool.and_eq_true, beq_iff_eq] at h
  have h1 := hi h.2.1 ((k : Int) + 1) (by
    unfold waysP
    rw [if_neg (by omega), if_neg (by omega), if_neg (by omega), if_neg (by omega)]
    simp)
  omega
theorem enBr (args : Array Value) (w : World) : (callFunc 38 args).run Tryz.prog w = .ok (.enter 38 args) w := by kernel_rfl
theorem enWy (args : Array Value) (w : World) : (callFunc 42 args).run Tryz.prog w = .ok (.enter 42 args) w := by kernel_rfl
def SlTo (w : World) (r : Int) (e : Ending) (w' : World) : Prop := e = .returned (.int .i64 r) ∧ Below w.heap.size w w'
set_option maxRecDepth 100000 in
set_option maxHeartbeats 16000000 in
theorem secondLook_any (enc : Bool) (ac ae : Option Addr) (cc ce gs : Nat) (C : List In) (E : List Int) (S : List St) (w : World) (hcc : C.length ≤ cc) (hcl : cc ≤ 9223372036854775807) (hce : E.length ≤ ce) (hK : Hid (Chk enc C E)) (hr : Hid (IRow w ac C)) (he : Hid (Row .i64 w ae E)) (hS : Hid (Blk w gs 101 (cellsG stc S))) (hSl : S.length = C.length)
    (hI : Hid (∀ k, k < C.length → cameP S k = true → Inn C k ∧ ∀ y ∈ waysP C k, cameP S y.toNat = true)) (hEc : Hid (∀ e ∈ E, cameP S e.toNat = true)) :
    Calls Tryz.prog 27 #[.agg #[.bool enc, .slice ac C.length cc, .slice ae E.length ce], .slice (some ⟨gs, 0, none⟩) C.length C.length] w fun e w' => SlTo w (secondP C E S) e w' := by
  have HCe := hide_ hK.out.ceok
  obtain ⟨n, hn⟩ : ∃ n, C.length = n := ⟨_, rfl⟩
  have hn9 : n ≤ 1048576 := by have := hK.out.nc; omega
  have hEl : (E.length : Int) ≤ 1048576 := by have := hK.out.ne; omega
  obtain ⟨R, hR⟩ : ∃ R, secondP C E S = R := ⟨_, rfl⟩
  obtain ⟨Q, hQ⟩ : ∃ Q, quP C E S = Q := ⟨_, rfl⟩
  obtain ⟨U, hU⟩ : ∃ U, bkP C E S = U := ⟨_, rfl⟩
  obtain ⟨RG, hRG⟩ : ∃ RG, rgP C E S = RG := ⟨_, rfl⟩
  obtain ⟨LD, hLD⟩ : ∃ LD, ldP C E S = LD := ⟨_, rfl⟩
  have hR2 := hR
  unfold secondP at hR2
  rw [hRG, hLD, hQ, hn] at hR2
  have hRG2 := hRG
  unfold rgP at hRG2
  rw [hU, hQ, hn] at hRG2
  have hLD2 := hLD
  unfold ldP at hLD2
  rw [hU, hQ, hn] at hLD2
  have hU2 := hU
  unfold bkP at hU2
  rw [hQ, hn] at hU2
  have hQ2 := hQ
  unfold quP at hQ2
  rw [hn] at hQ2
  obtain ⟨rU, rS, rM⟩ := revF_ok (ed := bareP C E S Q) (S := S) (n := n) (fun k hk hc => by rw [← hn]; exact bare_in HCe.out (by omega) (hI.out k (by omega) hc).1 S Q) (fun k hk => Nat.le_trans (bare_len (E := E) HCe.out.cd (by omega) S Q) (by omega)) n 0 (List.replicate n []) (by omega) (by simp) (usr_new _ _ _)
  rw [hU2] at rU rS rM
  rw [sum_new] at rS
  have HT : Hid (∀ s, tot (uA U) s n ≤ 65 * n) := hide_ (fun q => by
    have h1 := tot_sum U q n (by omega)
    rw [List.take_of_length_le (by omega)] at h1
    omega)
  have HeU : Hid (∀ k, k < n → Stn n (uA U k)) := hide_ (fun k _ y hy => by
    obtain ⟨j, hj, e, -, -⟩ := rM k y hy
    rw [e]
    omega)
  have HeW : Hid (∀ k, k < n → Stn n (edW C S k)) := hide_ (fun k hk y hy => by
    unfold edW at hy
    split at hy
    · rename_i hc
      have h1 := (hI.out k (by omega) hc).1 y hy
      rw [hn] at h1
      exact h1
    · cases hy)
  have HtW : Hid (∀ s, tot (edW C S) s n ≤ 64 * n) := hide_ (fun s => tot_bound s n (fun k hk => by
    unfold edW
    split
    · exact ways_len HCe.out.cd (by omega)
    · simp))
  have HcW : Hid (∀ k, k < n → cameP S k = true → ∀ y ∈ edW C S k, cameP S y.toNat = true) := hide_ (fun k hk hc y hy => by
    unfold edW at hy
    rw [if_pos hc] at hy
    exact (hI.out k (by omega) hc).2 y hy)
  have HEn : Hid (∀ (i : Nat), i < E.length → 0 ≤ E.getD i 0 ∧ E.getD i 0 < (n : Int) ∧ cameP S (E.getD i 0).toNat = true) := hide_ (fun i hi => by
    have h1 := HCe.out.ent i hi
    have h2 : E.getD i 0 ∈ E := by
      have e : E.getD i 0 = E[i] := by simp [List.getD, hi]
      rw [e]
      exact List.getElem_mem hi
    rw [hn] at h1
    exact ⟨h1.1, h1.2, hEc.out _ h2⟩)
  have hI2 : Hid (∀ k, k < n → cameP S k = true → Inn C k ∧ ∀ y ∈ waysP C k, cameP S y.toNat = true) := hide_ (fun k hk => hI.out k (by omega))
  have HI1 : Hid (∀ k, k < n → cameP S k = true → Inn C k) := hide_ (fun k hk hc => (hI.out k (by omega) hc).1)
  have HR := hide_ hR2
  have HQ := hide_ hQ2
  have HUe := hide_ hU2
  have HRG := hide_ hRG2
  have HLD := hide_ hLD2
  have HUl := hide_ rU
  have Hn := hide_ hn
  have hccn : n ≤ cc := by omega
  rw [hR]
  rw [hn]
  clear hR hR2 hQ hQ2 hU hU2 hRG hRG2 hLD hLD2 rU rS rM hK
  obtain ⟨w1, hw1⟩ : ∃ wx, w.alloc (.cells #[.bool enc, .slice ac n cc, .slice ae E.length ce] 25) = wx := ⟨_, rfl⟩
  have hB1 : Below w.heap.size w w1 := by rw [← hw1]; exact below1 _ _
  have K1 : Blk w1 w.heap.size 25 [.bool enc, .slice ac n cc, .slice ae E.length ce] := by rw [← hw1]; exact Blk.newA w _ _
  have HS1 : Hid (∀ w3, Below w1.heap.size w1 w3 → (fun w' => w'.cell? ⟨w.heap.size, 0, none⟩ = some (.bool enc) ∧ w'.cell? ⟨w.heap.size, 1, none⟩ = some (.slice ac n cc) ∧ w'.cell? ⟨w.heap.size, 2, none⟩ = some (.slice ae E.length ce)) w3) := hide_ (fun w3 hB => by
    have k := K1.later hB
    exact ⟨by rw [k.cell 0]; rfl, by rw [k.cell 1]; rfl, by rw [k.cell 2]; rfl⟩)
  have HB1 := hide_ hB1
  have HK1 := hide_ K1
  have hn10 : n ≤ 1000000000 := by omega
  clear hB1 K1 hn
  go_enter Tryz.func27, Tryz.ntmps27
  go_upto_region 1 with fail
  try rw [hw1]
  clear hw1
  go_cut [5] from 14 to 19 (fun x5 wc => ∃ (b gq : Nat) (w3 : World), w3 = wc ∧ x5 = .pointer (some ⟨b, 0, none⟩) ∧ Hid (Blk w3 b 75 [.bool enc, .slice ac n cc, .slice ae E.length ce, .slice (some ⟨gs, 0, none⟩) n n, .slice (some ⟨gq, 0, none⟩) n n, .slice none 0 0]) ∧ Hid (Blk w3 gq 4 ((List.replicate n false).map Value.bool)) ∧ Hid (Below w1.heap.size w1 w3) ∧ Hid (w1.heap.size ≤ b) ∧ Hid (w1.heap.size ≤ gq))
  case first =>
    refine wp_region_last 7 (fun w' => w'.cell? ⟨w.heap.size, 0, none⟩ = some (.bool enc) ∧ w'.cell? ⟨w.heap.size, 1, none⟩ = some (.slice ac n cc) ∧ w'.cell? ⟨w.heap.size, 2, none⟩ = some (.slice ae E.length ce)) (by kernel_rfl) (HS1.out _ (Below.refl _ _).drew) (fun hHeld => ?_)
    obtain ⟨wz0, hz0⟩ : ∃ wx, w1.drew = wx := ⟨_, rfl⟩
    rw [hz0] at hHeld ⊢
    have HBz0 : Hid (Below w1.heap.size w1 wz0) := hide_ (by rw [← hz0]; exact (Below.refl _ _).drew)
    have hSz0 := hHeld
    clear hz0
    refine wpAnyF_take [7] (by kernel_rfl) (i := 0) (v := ?vp1) rfl (by kernel_rfl) (by kernel_rfl) (by kernel_rfl) (fun _ _ _ h => h) (Or.inl ⟨by kernel_rfl, ?hyp1⟩) hHeld ?restp1
    case hyp1 => intro w' hSw; (try dsimp only at hSw); go_simp; try with_reducible rfl
    simp only [Act.put]
    try dsimp only
    refine wpAnyF_take [7] (by kernel_rfl) (i := 1) (v := ?vp2) rfl (by kernel_rfl) (by kernel_rfl) (by kernel_rfl) (fun _ _ _ h => h) (Or.inl ⟨by kernel_rfl, ?hyp2⟩) hHeld ?restp2
    case hyp2 => intro w' hSw; (try dsimp only at hSw); go_simp; try with_reducible rfl
    simp only [Act.put]
    try dsimp only
    refine wpAnyF_take [7] (by kernel_rfl) (i := 2) (v := ?vp3) rfl (by kernel_rfl) (by kernel_rfl) (by kernel_rfl) (fun _ _ _ h => h) (Or.inl ⟨by kernel_rfl, ?hyp3⟩) hHeld ?restp3
    case hyp3 => intro w' hSw; (try dsimp only at hSw); go_simp; try with_reducible rfl
    simp only [Act.put]
    try dsimp only
    refine wpAnyF_take [7] (by kernel_rfl) (i := 3) (v := ?vp4) rfl (by kernel_rfl) (by kernel_rfl) (by kernel_rfl) (fun _ _ _ h => h) (Or.inl ⟨by kernel_rfl, ?hyp4⟩) hHeld ?restp4
    case hyp4 => intro w' hSw; (try dsimp only at hSw); go_simp; try with_reducible rfl
    simp only [Act.put]
    try dsimp only
    refine wpAnyF_ready (rs := [4, 6]) (by kernel_rfl) (by simp) ?_
    refine AllReadyF.cons rfl (fun K hK => ?_) ?_
    · have hmk := makeBo n hn10 wz0
      go_simp
      clear hmk
      obtain ⟨wz1, hz⟩ : ∃ wx, wz0.alloc (.cells (madeCells #[.bool false] n) 4) = wx := ⟨_, rfl⟩
      obtain ⟨gq, ha⟩ : ∃ a, wz0.heap.size = a := ⟨_, rfl⟩
      have hbz : Below wz0.heap.size wz0 wz1 := by rw [← hz]; exact below1 _ _
      have KQ_1 : Hid (Blk wz1 gq 4 ((List.replicate n false).map Value.bool)) := hide_ (by rw [← hz, ← ha]; exact newBo _ _)
      have HGq : Hid (w1.heap.size ≤ gq) := hide_ (by have := HBz0.out.size; omega)
      have HBz1 := hide_ (below_to HBz0.out hbz)
      have hSz1 := HS1.out wz1 HBz1.out
      rw [hz, ha]
      clear hbz hz ha
      refine hK.out _ _ (hSz1) (fun hHeld => ?_)
      clear hK K
      refine wpAnyF_take [7] (by kernel_rfl) (i := 5) (v := ?vp5) rfl (by kernel_rfl) (by kernel_rfl) (by kernel_rfl) (fun _ _ _ h => h) (Or.inl ⟨by kernel_rfl, ?hyp5⟩) hHeld ?restp5
      case hyp5 => intro w' hSw; (try dsimp only at hSw); go_simp; try with_reducible rfl
      simp only [Act.put]
      try dsimp only
      refine wpAnyF_ready (rs := [6]) (by kernel_rfl) (by simp) ?_
      refine AllReadyF.cons rfl (fun K hK => ?_) AllReadyF.nil
      go_simp
      obtain ⟨wz2, hz⟩ : ∃ wx, wz1.alloc (.cells #[.bool false, .slice none 0 0, .slice none 0 0, .slice none 0 0, .slice none 0 0, .slice none 0 0] 75) = wx := ⟨_, rfl⟩
      obtain ⟨b, ha⟩ : ∃ a, wz1.heap.size = a := ⟨_, rfl⟩
      have hbz : Below wz1.heap.size wz1 wz2 := by rw [← hz]; exact below1 _ _
      have KB_2 : Hid (Blk wz2 b 75 [.bool false, .slice none 0 0, .slice none 0 0, .slice none 0 0, .slice none 0 0, .slice none 0 0]) := hide_ (by rw [← hz, ← ha]; exact Blk.newA _ _ _)
      have HGb : Hid (w1.heap.size ≤ b) := hide_ (by have := HBz1.out.size; omega)
      have HBz2 := hide_ (below_to HBz1.out hbz)
      have KQ_2 := hide_ (KQ_1.out.later hbz)
      have hSz2 := HS1.out wz2 HBz2.out
      rw [hz, ha]
      clear hbz hz ha
      refine hK.out _ _ (hSz2) (fun hHeld => ?_)
      clear hK K
      refine wpAnyF_ready (rs := [7]) (by kernel_rfl) (by simp) ?_
      refine AllReadyF.last rfl (fun K hK => ?_)
      have pb := fun i => KB_2.out.cell i
      have p0 := pb 0; have p1 := pb 1; have p2 := pb 2; have p3 := pb 3; have p4 := pb 4; have p5 := pb 5
      simp at p0 p1 p2 p3 p4 p5
      have zb := fun i => KB_2.out.frozen i
      clear pb
      go_simp
      refine hK.out _ _ ?_
      clear hK K
      refine wpAnyF_done (by kernel_rfl) ?_ _
      obtain ⟨w3, hz⟩ : ∃ wx, putP wz2 b (.bool enc) (.slice ac n cc) (.slice ae E.length ce) (.slice (some ⟨gs, 0, none⟩) n n) (.slice (some ⟨gq, 0, none⟩) n n) (.slice none 0 0) = wx := ⟨_, rfl⟩
      have KB3 : Hid (Blk w3 b 75 [.bool enc, .slice ac n cc, .slice ae E.length ce, .slice (some ⟨gs, 0, none⟩) n n, .slice (some ⟨gq, 0, none⟩) n n, .slice none 0 0]) := hide_ (by rw [← hz]; exact KB_2.out.putP _ _ _ _ _ _)
      have KQ3 : Hid (Blk w3 gq 4 ((List.replicate n false).map Value.bool)) := hide_ (by rw [← hz]; exact KQ_2.out.putPo _ _ _ _ _ _ _ (fun e => absurd (blk_type (e ▸ KQ_2.out) KB_2.out) (by decide)))
      have HB3 : Hid (Below w1.heap.size w1 w3) := hide_ (by rw [← hz]; exact below_putP HBz2.out _ _ _ _ _ _ _ HGb.out)
      unfold putP at hz
      rw [hz]
      clear hz
      go_wp2_with fail
      go_meet
      case rel => exact ⟨b, gq, _, rfl, rfl, KB3, KQ3, HB3, HGb, HGq⟩
    refine AllReadyF.cons rfl (fun K hK => ?_) AllReadyF.nil
    go_simp
    obtain ⟨wz1, hz⟩ : ∃ wx, wz0.alloc (.cells #[.bool false, .slice none 0 0, .slice none 0 0, .slice none 0 0, .slice none 0 0, .slice none 0 0] 75) = wx := ⟨_, rfl⟩
    obtain ⟨b, ha⟩ : ∃ a, wz0.heap.size = a := ⟨_, rfl⟩
    have hbz : Below wz0.heap.size wz0 wz1 := by rw [← hz]; exact below1 _ _
    have KB_1 : Hid (Blk wz1 b 75 [.bool false, .slice none 0 0, .slice none 0 0, .slice none 0 0, .slice none 0 0, .slice none 0 0]) := hide_ (by rw [← hz, ← ha]; exact Blk.newA _ _ _)
    have HGb : Hid (w1.heap.size ≤ b) := hide_ (by have := HBz0.out.size; omega)
    have HBz1 := hide_ (below_to HBz0.out hbz)
    have hSz1 := HS1.out wz1 HBz1.out
    rw [hz, ha]
    clear hbz hz ha
    refine hK.out _ _ (hSz1) (fun hHeld => ?_)
    clear hK K
    refine wpAnyF_ready (rs := [4]) (by kernel_rfl) (by simp) ?_
    refine AllReadyF.cons rfl (fun K hK => ?_) AllReadyF.nil
    have hmk := makeBo n hn10 wz1
    go_simp
    clear hmk
    obtain ⟨wz2, hz⟩ : ∃ wx, wz1.alloc (.cells (madeCells #[.bool false] n) 4) = wx := ⟨_, rfl⟩
    obtain ⟨gq, ha⟩ : ∃ a, wz1.heap.size = a := ⟨_, rfl⟩
    have hbz : Below wz1.heap.size wz1 wz2 := by rw [← hz]; exact below1 _ _
    have KQ_2 : Hid (Blk wz2 gq 4 ((List.replicate n false).map Value.bool)) := hide_ (by rw [← hz, ← ha]; exact newBo _ _)
    have HGq : Hid (w1.heap.size ≤ gq) := hide_ (by have := HBz1.out.size; omega)
    have HBz2 := hide_ (below_to HBz1.out hbz)
    have KB_2 := hide_ (KB_1.out.later hbz)
    have hSz2 := HS1.out wz2 HBz2.out
    rw [hz, ha]
    clear hbz hz ha
    refine hK.out _ _ (hSz2) (fun hHeld => ?_)
    clear hK K
    refine wpAnyF_take [7] (by kernel_rfl) (i := 5) (v := ?vp6) rfl (by kernel_rfl) (by kernel_rfl) (by kernel_rfl) (fun _ _ _ h => h) (Or.inl ⟨by kernel_rfl, ?hyp6⟩) hHeld ?restp6
    case hyp6 => intro w' hSw; (try dsimp only at hSw); go_simp; try with_reducible rfl
    simp only [Act.put]
    try dsimp only
    refine wpAnyF_ready (rs := [7]) (by kernel_rfl) (by simp) ?_
    refine AllReadyF.last rfl (fun K hK => ?_)
    have pb := fun i => KB_2.out.cell i
    have p0 := pb 0; have p1 := pb 1; have p2 := pb 2; have p3 := pb 3; have p4 := pb 4; have p5 := pb 5
    simp at p0 p1 p2 p3 p4 p5
    have zb := fun i => KB_2.out.frozen i
    clear pb
    go_simp
    refine hK.out _ _ ?_
    clear hK K
    refine wpAnyF_done (by kernel_rfl) ?_ _
    obtain ⟨w3, hz⟩ : ∃ wx, putP wz2 b (.bool enc) (.slice ac n cc) (.slice ae E.length ce) (.slice (some ⟨gs, 0, none⟩) n n) (.slice (some ⟨gq, 0, none⟩) n n) (.slice none 0 0) = wx := ⟨_, rfl⟩
    have KB3 : Hid (Blk w3 b 75 [.bool enc, .slice ac n cc, .slice ae E.length ce, .slice (some ⟨gs, 0, none⟩) n n, .slice (some ⟨gq, 0, none⟩) n n, .slice none 0 0]) := hide_ (by rw [← hz]; exact KB_2.out.putP _ _ _ _ _ _)
    have KQ3 : Hid (Blk w3 gq 4 ((List.replicate n false).map Value.bool)) := hide_ (by rw [← hz]; exact KQ_2.out.putPo _ _ _ _ _ _ _ (fun e => absurd (blk_type (e ▸ KQ_2.out) KB_2.out) (by decide)))
    have HB3 : Hid (Below w1.heap.size w1 w3) := hide_ (by rw [← hz]; exact below_putP HBz2.out _ _ _ _ _ _ _ HGb.out)
    unfold putP at hz
    rw [hz]
    clear hz
    go_wp2_with fail
    go_meet
    case rel => exact ⟨b, gq, _, rfl, rfl, KB3, KQ3, HB3, HGb, HGq⟩
  case rest =>
  obtain ⟨b, gq, w3, rfl, rfl, KB3, KQ3, HB3, HGb, HGq⟩ := hcut
  have HBw3 := hide_ (below_to HB1.out HB3.out)
  have HX3 : Hid (PtX w w3 b cc ce gs gq ac ae enc C E S (List.replicate n false) (.slice none 0 0)) := hide_ (by
    have h1 := KB3.out
    rw [← Hn.out] at h1
    exact ⟨⟨h1, hr.out.later HBw3.out, he.out.later HBw3.out, hS.out.later HBw3.out, hSl, KQ3.out, by rw [List.length_replicate, Hn.out]⟩, HBw3.out, hr.out, he.out, Nat.le_trans HB1.out.size HGq.out, Nat.le_trans HB1.out.size HGb.out⟩)
  have HK3 := hide_ (HK1.out.later HB3.out)
  have HFq := hide_ (findQuiet_any w b cc ce gs gq n ac ae enc C E S (List.replicate n false) (.slice none 0 0) w3 Hn.out hn9 (by rw [Hn.out]; exact hccn) hcl HCe HI1 HX3)
  rw [HQ.out] at HFq
  have HneK : Hid (w.heap.size ≠ gq ∧ w.heap.size ≠ b) := hide_ ⟨fun e => by have := HGq.out; have := HK1.out.lt; omega, fun e => by have := HGb.out; have := HK1.out.lt; omega⟩
  clear HX3 KB3 KQ3 HB3 hr he hS HS1
  go_wp2_with fail
  refine HFq.out.mono ?_
  rintro e w4 ⟨rfl, hX4, hU4⟩
  have HX4 := hide_ hX4
  have HK4 := hide_ (HK3.out.upd hU4 (fun e => HneK.out.1 e))
  have HRv := hide_ (reversed_any 38 (.pointer (some ⟨b, 0, none⟩)) (bareP C E S Q) b cc ce gs gq n ac ae enc C E S Q (.slice none 0 0) w4 Hn.out hn9 (hide_ hX4.p) (hide_ (fun k hk hc => by rw [← Hn.out]; exact bare_in HCe.out (by rw [Hn.out]; exact hk) (HI1.out k hk hc) S Q)) (hide_ (fun k hk => Nat.le_trans (bare_len (E := E) HCe.out.cd (by rw [Hn.out]; exact hk) S Q) (by omega))) (hide_ (fun k w' hk hc hB => bare_any b cc ce gs gq ac ae enc C E S Q (.slice none 0 0) k w' (by rw [Hn.out]; exact hk) (by rw [Hn.out]; exact hccn) hcl HCe (hide_ (hX4.p.later hB)))) enBr)
  rw [HUe.out] at HRv
  clear HFq hX4 hU4 HK3
  go_wp2_with fail
  refine HRv.out.mono ?_
  rintro e w5 ⟨gb, vs, rfl, hgb, hK5, hUl5, hB5⟩
  have hX5 := HX4.out.later hB5
  have hK5b := HK4.out.later hB5
  have cb := hX5.p.cells.2.2.2.2.2
  have zb := hX5.p.blk.frozen 5
  obtain ⟨w6, hw6⟩ : ∃ wx, w5.setCell ⟨b, 5, none⟩ (.slice (some ⟨gb, 0, none⟩) n n) = wx := ⟨_, rfl⟩
  obtain ⟨hX6, hU6⟩ := hX5.setB (.slice (some ⟨gb, 0, none⟩) n n)
  rw [hw6] at hX6 hU6
  have HBk6 := hide_ (hK5.upd hU6 (fun e => absurd (blk_type (e ▸ hK5.blk) hX5.p.blk) (by decide)) (fun i v q hv e e2 => (hK5.own i v hv).neB hX5.p.blk (by decide) (e2 ▸ e)))
  have HX6 := hide_ hX6
  have HK6 := hide_ (hK5b.upd hU6 (fun e => HneK.out.2 e))
  have HRi := hide_ (rings_any b cc ce gs gq gb w4.heap.size n ac ae enc C E S Q vs U w6 Hn.out HUl.out hn9 (by rw [Hn.out]; exact hccn) hcl HeU HT HCe hI2 HBk6 (hide_ hX6.p))
  rw [HRG.out] at HRi
  clear HRv hX5 hK5b hX6 hU6 hK5 hB5 hgb hUl5 HX4 HK4
  go_wp2_with fail
  try rw [hw6]
  clear hw6 cb zb
  refine HRi.out.mono ?_
  rintro e w7 ⟨gr, rfl, hgr, hKr, hRGl, hB7⟩
  have HX7 := hide_ (HX6.out.later hB7)
  have HBk7 := hide_ (HBk6.out.later hB7)
  have HK7 := hide_ (HK6.out.later hB7)
  have HKr7 := hide_ hKr
  have HRGl := hide_ hRGl
  have HLe := hide_ (leads_any b cc ce gs gq gb w4.heap.size n ac ae enc C E S Q vs U w7 Hn.out HUl.out hn9 HeU HT HCe HBk7 (hide_ HX7.out.p))
  rw [HLD.out] at HLe
  clear HRi hgr hKr hRGl hB7 HX6 HBk6 HK6
  go_wp2_with fail
  refine HLe.out.mono ?_
  rintro e w8 ⟨gl, rfl, hgl, hKl, hLDl, hB8⟩
  have HX8 := hide_ (HX7.out.later hB8)
  have HK8 := HK7.out.later hB8
  have HKr8 := hide_ (HKr7.out.later hB8)
  have HKl8 := hide_ hKl
  have HLDl := hide_ hLDl
  have k1 := HK8.cell 1
  simp only [List.getElem?_cons_succ, List.getElem?_cons_zero] at k1
  obtain ⟨w9, hmk, hK9, hB9⟩ : ∃ wx, (Instr.makeSlice 43 (.int .i64 (n : Int)) (.int .i64 (n : Int))).run Tryz.prog w8 = .ok (.slice (some ⟨w8.heap.size, 0, none⟩) n n) wx ∧ Blk wx w8.heap.size 4 ((List.replicate n false).map Value.bool) ∧ Below w8.heap.size w8 wx := ⟨_, makeBo n (by omega) w8, newBo w8 n, below1 _ _⟩
  obtain ⟨gn, hgn⟩ : ∃ gn, w8.heap.size = gn := ⟨_, rfl⟩
  rw [hgn] at hmk hK9
  have k2 := (HK8.later hB9).cell 2
  simp only [List.getElem?_cons_succ, List.getElem?_cons_zero] at k2
  have HX9 := hide_ (HX8.out.later hB9)
  have HKr9 := hide_ (HKr8.out.later hB9)
  have HKl9 := hide_ (HKl8.out.later hB9)
  have HK9 := hide_ hK9
  have Hgne : Hid (gn ≠ b ∧ gn ≠ gs ∧ gn ≠ gq ∧ gn ≠ gr ∧ gn ≠ gl ∧ w.heap.size ≤ gn) := hide_ (by
    have e1 := HX8.out.p.blk.lt
    have e2 := HX8.out.p.st.lt
    have e3 := HX8.out.p.qt.lt
    have e4 := HKr8.out.lt
    have e5 := HKl8.out.lt
    have e6 := HX8.out.old.size
    exact ⟨by omega, by omega, by omega, by omega, by omega, by omega⟩)
  clear HLe hgl hKl hLDl hB8 HX7 HBk7 HK7 HKr7 HX8 HK8 HKr8 HKl8 hK9 hB9 hgn
  go_wp2_with fail
  clear hmk k1 k2
  have HWd : Hid (∀ W, Upd (fun q => q = gn) w9 W → PtX w W b cc ce gs gq ac ae enc C E S Q (.slice (some ⟨gb, 0, none⟩) n n) ∧ Blk W gr 4 (RG.map Value.bool) ∧ Blk W gl 3 (cellsL .i64 LD)) := hide_ (fun W hu =>
    ⟨HX9.out.upd hu (fun q e => by rw [e]; exact Hgne.out.2.2.2.2.2) (fun e => Hgne.out.1 e.symm) (fun e => Hgne.out.2.1 e.symm) (fun e => Hgne.out.2.2.1 e.symm), HKr9.out.upd hu (fun e => Hgne.out.2.2.2.1 e.symm), HKl9.out.upd hu (fun e => Hgne.out.2.2.2.2.1 e.symm)⟩)
  obtain ⟨ed, hed⟩ : ∃ ed, edW C S = ed := ⟨_, rfl⟩
  obtain ⟨ip, hip⟩ : ∃ ip, idleP C E S Q = ip := ⟨_, rfl⟩
  have HSp : Hid (∀ (W : World) (k : Nat) (s : List Bool), Upd (fun q => q = gn) w9 W → k < n → cameP S k = true → s.length = n → Blk W gn 4 (s.map Value.bool) → Calls Tryz.prog 41 #[.int .i64 (k : Int), .func (.func 42) #[.pointer (some ⟨b, 0, none⟩)] #[], .slice (some ⟨gn, 0, none⟩) n n] W fun e w' => SpTo W gn n (spF ed (tot ed s n + 2) [(k : Int)] s []) e w') := hide_ (fun W k s hu hk hck hs hKs => by
    rw [← hed]
    refine spread_gen (fun k => cameP S k = true) 42 (.pointer (some ⟨b, 0, none⟩)) (edW C S) n k gn s W hn9 hk hck HcW hs HeW (hide_ (by have := HtW.out s; omega)) (hide_ hKs) (hide_ (fun j w' hj hcj hu2 => ?_)) enWy
    refine (pways_any b cc ce gs gq ac ae enc C E S Q _ j w' (by rw [Hn.out]; exact hj) (by rw [Hn.out]; exact hccn) hcl (hide_ HCe.out.cd) (hide_ (HWd.out w' (hu.to hu2)).1.p)).mono ?_
    rintro e w'' ⟨v, rfl, HO, HB⟩
    obtain ⟨a, c, ev, hrv, hnv, -⟩ := HO.out.row
    subst ev
    have e1 : edW C S j = waysP C j := by unfold edW; rw [if_pos hcj]
    rw [e1]
    exact ⟨a, c, rfl, hide_ hnv, hide_ hrv, HB⟩)
  have HSo : Hid (∀ (k : Nat) (s : List Bool), k < n → s.length = n → Stn n (spF ed (tot ed s n + 2) [(k : Int)] s []).1 ∧ (spF ed (tot ed s n + 2) [(k : Int)] s []).2.length = n ∧ (spF ed (tot ed s n + 2) [(k : Int)] s []).1.length ≤ 1 + 64 * n) := hide_ (fun k s hk hs => by
    have h1 := spF_ok (ed := ed) (by rw [← hed]; exact HeW.out) (tot ed s n + 2) [(k : Int)] s [] (fun y hy => by rw [List.mem_singleton] at hy; omega) hs (fun y hy => by cases hy)
    have h2 := HtW.out s
    rw [hed] at h2
    refine ⟨h1.1, h1.2.1, ?_⟩
    have h3 := h1.2.2
    simp only [List.length_nil, List.length_singleton] at h3
    omega)
  have HId : Hid (∀ (W : World) (k : Nat), Upd (fun q => q = gn) w9 W → k < n → Calls Tryz.prog 43 #[.pointer (some ⟨b, 0, none⟩), .int .i64 (k : Int)] W fun e w'' => e = .returned (.bool (ip k)) ∧ Below W.heap.size W w'') := hide_ (fun W k hu hk => by
    rw [← hip]
    exact idle_any b cc ce gs gq ac ae enc C E S Q _ k W (by rw [Hn.out]; exact hk) HCe (hide_ (HWd.out W hu).1.p))
  have Hnx : Hid (∀ k, k < n → ip k = true → k + 1 < n) := hide_ (fun k hk h => by
    rw [← hip] at h
    have h1 := idle_next (fun hc => HI1.out k hk hc) h
    rw [Hn.out] at h1
    exact h1)
  rw [hed, hip] at HR
  clear hed hip
  go_loopw [33] (fun x33 wr => ∃ (j : Nat) (s : List Bool), j ≤ E.length ∧ x33 = .int .i64 (j : Int) ∧ Hid (seF ed n RG LD ip (E.drop j) s = R) ∧ Hid (s.length = n) ∧ Hid (Blk wr gn 4 (s.map Value.bool)) ∧ Hid (Upd (fun q => q = gn) w9 wr)) (fun x33 _ => E.length - (intOf x33).toNat)
  case atStart => exact ⟨0, _, by omega, rfl, HR, hide_ (by simp), HK9, hide_ (Upd.refl _ _)⟩
  case round =>
    clear HR HK9 HX9 HKr9 HKl9
    obtain ⟨j, s, hj, rfl, HRj, Hsl, HKj, HUj⟩ := hrel
    generalize wr = wq at *
    by_cases hlt : j < E.length
    · have hlt' : (j : Int) < (E.length : Int) := by omega
      obtain ⟨hXq, hKrq, hKlq⟩ := HWd.out wq HUj.out
      obtain ⟨be, oe, hae, hbe, hcE⟩ := hXq.p.ent.open (by omega)
      have ce1 := hcE j hlt
      obtain ⟨e0, e1, e2⟩ := HEn.out j hlt
      obtain ⟨x, hx⟩ : ∃ x, E.getD j 0 = x := ⟨_, rfl⟩
      rw [hx] at e0 e1 e2 ce1
      obtain ⟨k, rfl⟩ := Int.eq_ofNat_of_zero_le e0
      rw [Int.toNat_natCast] at e2
      have hkn : k < n := by omega
      have cl : wq.cell? ⟨gl, k, none⟩ = some (.int .i64 (hAt LD k)) := by
        rw [hKlq.cell, cellsL_at .i64 LD k (by rw [HLDl.out]; exact hkn)]
        rfl
      obtain ⟨l0, hl0⟩ : ∃ l0, hAt LD k = l0 := ⟨_, rfl⟩
      rw [hl0] at cl
      obtain ⟨RR, hRR⟩ : ∃ RR, spF ed (tot ed s n + 2) [(k : Int)] s [] = RR := ⟨_, rfl⟩
      have HSj := hide_ (HSp.out wq k s HUj.out hkn e2 Hsl.out HKj.out)
      have HSoj := hide_ (HSo.out k s hkn Hsl.out)
      rw [hRR] at HSj HSoj
      obtain ⟨LL, hLL⟩ : ∃ LL, RR.1.foldl (lsP RG LD ip) l0 = LL := ⟨_, rfl⟩
      have HRj2 : Hid ((if LL ≠ 1048576 then LL else seF ed n RG LD ip (E.drop (j + 1)) RR.2) = R) := hide_ (by
        have h1 := HRj.out
        rw [List.drop_eq_getElem_cons hlt] at h1
        have h2 : E[j] = (k : Int) := by
          rw [← hx]
          simp [List.getD, hlt]
        rw [h2, seF, hRR, Int.toNat_natCast, hl0, hLL] at h1
        exact h1)
      have HLL := hide_ hLL
      subst hae
      clear hx hRR hl0 hLL HRj e0 e1 e2 hXq hKrq hKlq hcE hbe
      go_wp2_with fail
      refine HSj.out.mono ?_
      rintro e w10 hT10
      obtain ⟨v10, rfl, hO10, hK10, hl10, hU10⟩ := hT10
      obtain ⟨a10, c10, ev10⟩ := hO10.slice
      subst ev10
      have HO10 := hide_ hO10
      have HK10 := hide_ hK10
      have Hl10 := hide_ hl10
      have HU10 := hide_ (HUj.out.to hU10)
      have hfl : RR.1.length ≤ 1 + 64 * n := HSoj.out.2.2
      clear hO10 hK10 hl10 hU10 HSj ce1 cl HKj HUj
      go_wp2_with fail
      go_loopw [11, 46] (fun x11 x46 wr => ∃ (i : Nat) (l : Int), i ≤ RR.1.length ∧ x46 = .int .i64 (i : Int) ∧ x11 = .int .i64 l ∧ Hid ((RR.1.drop i).foldl (lsP RG LD ip) l = LL) ∧ Hid (Blk wr gn 4 (RR.2.map Value.bool)) ∧ Hid (IOwn wr wq.heap.size (.slice a10 RR.1.length c10) RR.1) ∧ Hid (Upd (fun q => q = gn) w9 wr)) (fun _ x46 _ => RR.1.length - (intOf x46).toNat)
      case atStart => exact ⟨0, l0, by omega, rfl, rfl, HLL, HK10, HO10, HU10⟩
      case round =>
        clear HLL HK10 HO10 HU10
        obtain ⟨i, l, hi, rfl, rfl, HRi, HKi, HOi, HUi⟩ := hrel
        generalize wr = wp at *
        by_cases hil : i < RR.1.length
        · have hil' : (i : Int) < (RR.1.length : Int) := by omega
          obtain ⟨g, c, hv, hcv, hgB, hgL⟩ := HOi.out.open (by omega)
          injection hv with hv1 hv2 hv3
          subst hv1
          obtain ⟨cy, -⟩ := HOi.out.cellH (i := i) hil
          obtain ⟨y0, y1⟩ := HSoj.out.1 _ (hAt_mem (l := RR.1) (i := i) hil)
          obtain ⟨m, hm⟩ := Int.eq_ofNat_of_zero_le y0
          rw [hm] at cy y1
          have hmn : m < n := by omega
          have hmn' : (m : Int) < (n : Int) := y1
          have hRi2 : (RR.1.drop (i + 1)).foldl (lsP RG LD ip) (lsP RG LD ip l (m : Int)) = LL := by
            have h1 := HRi.out
            rw [List.drop_eq_getElem_cons hil] at h1
            have h2 : RR.1[i] = (m : Int) := by
              rw [← hm]
              simp [hAt, List.getD, hil]
            rw [h2, List.foldl_cons] at h1
            exact h1
          obtain ⟨-, hKrp, hKlp⟩ := HWd.out wp HUi.out
          have cr := bAt hKrp (k := m) (by rw [HRGl.out]; exact hmn)
          obtain ⟨d1, hd1⟩ : ∃ d1, qAt RG m = d1 := ⟨_, rfl⟩
          rw [hd1] at cr
          obtain ⟨l1, hl1⟩ : ∃ l1, (if d1 = true then min l (m : Int) else l) = l1 := ⟨_, rfl⟩
          obtain ⟨d2, hd2⟩ : ∃ d2, ip m = d2 := ⟨_, rfl⟩
          have hls : lsP RG LD ip l (m : Int) = if d2 = true then min l1 (hAt LD (m + 1)) else l1 := by
            unfold lsP
            rw [Int.toNat_natCast, hd1, hd2, hl1]
          rw [hls] at hRi2
          have HRi2 := hide_ hRi2
          have HIj := hide_ (HId.out wp m HUi.out hmn)
          rw [hd2] at HIj
          have Hd2 := hide_ hd2
          have Hl1 := hide_ hl1
          have HKlp := hide_ hKlp
          clear hv2 hv3 hcv hgB hgL y0 y1 hm HRi hRi2 hls hd1 hd2 hl1 hKrp hKlp
          go_upto_if 53 with fail
          clear cy cr
          go_cut [11] from 53 to 56 (fun x11 wc => x11 = .int .i64 l1 ∧ wp = wc)
          case first =>
            cases d1
            · have e1 : l = l1 := by
                have h1 := Hl1.out
                rw [if_neg (by simp)] at h1
                exact h1
              subst e1
              go_wp2_with fail
              go_meet
              case rel => exact ⟨rfl, rfl⟩
            · have e1 : min l (m : Int) = l1 := by
                have h1 := Hl1.out
                rw [if_pos rfl] at h1
                exact h1
              have He1 := hide_ e1
              clear e1
              by_cases hlm : (m : Int) < l
              · have e2 : (m : Int) = l1 := by rw [← He1.out]; omega
                have He2 := hide_ e2
                clear e2
                go_wp2_with fail
                go_meet
                case rel => exact ⟨by rw [← He2.out], rfl⟩
              · have e2 : l = l1 := by rw [← He1.out]; omega
                have He2 := hide_ e2
                clear e2
                go_wp2_with fail
                go_meet
                case rel => exact ⟨by rw [← He2.out], rfl⟩
          case rest =>
          obtain ⟨rfl, rfl⟩ := hcut
          go_wp2_with fail
          refine HIj.out.mono ?_
          rintro e w11 ⟨rfl, hB11⟩
          have HK11 := hide_ (HKi.out.later hB11)
          have HO11 := hide_ (HOi.out.later hB11)
          have HU11 := hide_ (HUi.out.then hB11)
          have hKl11 := HKlp.out.later hB11
          clear hB11 HKi HOi HUi HIj HKlp
          cases d2
          · have HRi3 : Hid ((RR.1.drop (i + 1)).foldl (lsP RG LD ip) l1 = LL) := hide_ (by
              have h1 := HRi2.out
              rw [if_neg (by simp)] at h1
              exact h1)
            clear HRi2 hKl11
            go_wp2_with fail
            go_roundw
            case rel => exact ⟨i + 1, l1, by omega, by go_num, rfl, HRi3, HK11, HO11, HU11⟩
            case measure => simp [intOf]; omega
          · have hm1 : m + 1 < n := Hnx.out m hmn Hd2.out
            have hm1' : (m : Int) + 1 < (n : Int) := by omega
            have hwm : IntKind.i64.wrap ((m : Int) + 1) = (m : Int) + 1 := i64w _ (by omega)
            have cl : w11.cell? ⟨gl, m + 1, none⟩ = some (.int .i64 (hAt LD (m + 1))) := by
              rw [hKl11.cell, cellsL_at .i64 LD (m + 1) (by rw [HLDl.out]; exact hm1)]
              rfl
            obtain ⟨y, hy⟩ : ∃ y, hAt LD (m + 1) = y := ⟨_, rfl⟩
            rw [hy] at cl
            have HRi3 : Hid ((RR.1.drop (i + 1)).foldl (lsP RG LD ip) (min l1 y) = LL) := hide_ (by
              have h1 := HRi2.out
              rw [if_pos rfl, hy] at h1
              exact h1)
            clear HRi2 hKl11 hy
            by_cases hly : y < l1
            · have HRi4 : Hid ((RR.1.drop (i + 1)).foldl (lsP RG LD ip) y = LL) := hide_ (by
                have h1 := HRi3.out
                rw [show min l1 y = y by omega] at h1
                exact h1)
              clear HRi3
              go_wp2_with fail
              go_roundw
              case rel => exact ⟨i + 1, y, by omega, by go_num, rfl, HRi4, HK11, HO11, HU11⟩
              case measure => simp [intOf]; omega
            · have HRi4 : Hid ((RR.1.drop (i + 1)).foldl (lsP RG LD ip) l1 = LL) := hide_ (by
                have h1 := HRi3.out
                rw [show min l1 y = l1 by omega] at h1
                exact h1)
              clear HRi3
              go_wp2_with fail
              go_roundw
              case rel => exact ⟨i + 1, l1, by omega, by go_num, rfl, HRi4, HK11, HO11, HU11⟩
              case measure => simp [intOf]; omega
        · have hil' : ¬ ((i : Int) < (RR.1.length : Int)) := by omega
          have e1 : l = LL := by
            have h1 := HRi.out
            rw [List.drop_eq_nil_of_le (by omega)] at h1
            exact h1
          subst e1
          by_cases hLn : l = 1048576
          · have f0 : (l == 1048576) = true := by simpa using hLn
            have HR5 : Hid (seF ed n RG LD ip (E.drop (j + 1)) RR.2 = R) := hide_ (by
              have h1 := HRj2.out
              rw [if_neg (fun h => h hLn)] at h1
              exact h1)
            clear HRj2 HRi HOi
            go_wp2_with fail
            go_roundw
            case rel => exact ⟨j + 1, RR.2, by omega, by go_num, HR5, Hl10, HKi, HUi⟩
            case measure => simp [intOf]; omega
          · have f0 : (l == 1048576) = false := by simpa using hLn
            have HX : Hid (SlTo w R (.returned (.int .i64 l)) wp) := hide_ (by
              have h1 := HRj2.out
              rw [if_pos hLn] at h1
              rw [← h1]
              exact ⟨rfl, (HWd.out wp HUi.out).1.old⟩)
            clear HRj2 HRi HOi
            go_wp2_with fail
            go_ret
            exact HX.out
    · have hlt' : ¬ ((j : Int) < (E.length : Int)) := by omega
      have HX : Hid (SlTo w R (.returned (.int .i64 1048576)) wq) := hide_ (by
        have h1 := HRj.out
        rw [List.drop_eq_nil_of_le (by omega), seF] at h1
        rw [← h1]
        exact ⟨rfl, (HWd.out wq HUj.out).1.old⟩)
      go_wp2_with fail
      go_ret
      exact HX.out
end Go.Proofs.YtjamfbpdepahnaaGreat
