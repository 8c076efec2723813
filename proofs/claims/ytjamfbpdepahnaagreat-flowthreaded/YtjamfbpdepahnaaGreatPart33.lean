import Derived.Test.YtjamfbpdepahnaaGreatPart32
namespace Go.Proofs.YtjamfbpdepahnaaGreat
open Go.RowKit
set_option linter.unusedVariables false
set_option linter.unusedSimpArgs false
def retF (C : List In) (S : List St) : Nat → Nat → List Int → List Int
  | 0, _, W => W
  | f + 1, j, W => retF C S f (j + 1) (if (inA C j).op = 20 ∧ cameP S j = true then W ++ [(j : Int)] else W)
def StC (S : List St) (n : Nat) (wk : List Int) : Prop := ∀ y ∈ wk, 0 ≤ y ∧ y < (n : Int) ∧ cameP S y.toNat = true
theorem StC.stn {S : List St} {n : Nat} {wk : List Int} (h : StC S n wk) : Stn n wk := fun y hy => ⟨(h y hy).1, (h y hy).2.1⟩
theorem StC.app {S : List St} {n : Nat} {a c : List Int} (h : StC S n a) (k : StC S n c) : StC S n (a ++ c) := fun y hy => by
  rcases List.mem_append.1 hy with hy | hy
  · exact h y hy
  · exact k y hy
theorem StC.take {S : List St} {n : Nat} {a : List Int} (h : StC S n a) (m : Nat) : StC S n (a.take m) := fun y hy => h y (List.mem_of_mem_take hy)
theorem retF_ok {C : List In} {S : List St} {n : Nat} : ∀ (f j : Nat) (W : List Int), j + f ≤ n → StC S n W → W.length ≤ j → StC S n (retF C S f j W) ∧ (retF C S f j W).length ≤ j + f
  | 0, j, W, _, h, hl => ⟨h, by simpa [retF] using hl⟩
  | f + 1, j, W, hj, h, hl => by
    rw [retF]
    split
    · rename_i hc
      obtain ⟨a1, a2⟩ := retF_ok f (j + 1) (W ++ [(j : Int)]) (by omega) (h.app (fun y hy => by
        rw [List.mem_singleton] at hy
        rw [hy]
        exact ⟨by omega, by omega, by rw [Int.toNat_natCast]; exact hc.2⟩)) (by rw [List.length_append, List.length_singleton]; omega)
      exact ⟨a1, by omega⟩
    · obtain ⟨a1, a2⟩ := retF_ok (C := C) f (j + 1) W (by omega) h (by omega)
      exact ⟨a1, by omega⟩
def fqF (C : List In) (E : List Int) (S : List St) (us : Nat → List Int) : Nat → List Int → List Bool → List Bool
  | 0, _, Q => Q
  | f + 1, wk, Q => if wk = [] then Q else
    if (!qAt Q (hAt wk (wk.length - 1)).toNat && isqP C E S Q (hAt wk (wk.length - 1)).toNat) = true then fqF C E S us f (wk.take (wk.length - 1) ++ us (hAt wk (wk.length - 1)).toNat) (Q.set (hAt wk (wk.length - 1)).toNat true)
    else fqF C E S us f (wk.take (wk.length - 1)) Q
theorem fqF_fuel {C : List In} {E : List Int} {S : List St} {us : Nat → List Int} {n : Nat} (he : ∀ k, k < n → Stn n (us k)) : ∀ (f g : Nat) {wk : List Int} {Q : List Bool}, Stn n wk → Q.length = n → wk.length + tot us Q n < f → wk.length + tot us Q n < g → fqF C E S us f wk Q = fqF C E S us g wk Q
  | 0, g, wk, Q, _, _, h, _ => by omega
  | f + 1, 0, wk, Q, _, _, _, h => by omega
  | f + 1, g + 1, wk, Q, hw, hs, h1, h2 => by
    unfold fqF
    by_cases h0 : wk = []
    · rw [if_pos h0, if_pos h0]
    rw [if_neg h0, if_neg h0]
    have hl : 0 < wk.length := List.length_pos_iff.2 h0
    obtain ⟨a1, a2, a3⟩ := sp_pop hw h0
    have ht : (wk.take (wk.length - 1)).length = wk.length - 1 := by simp
    split
    · rename_i hq
      have hk : (hAt wk (wk.length - 1)).toNat < n := by omega
      rw [Bool.and_eq_true] at hq
      have hq : qAt Q (hAt wk (wk.length - 1)).toNat = false := by simpa using hq.1
      have h3 := tot_set us Q _ (by omega) hq n hk
      refine fqF_fuel he f g ?_ (by simp [hs]) (by rw [List.length_append]; omega) (by rw [List.length_append]; omega)
      intro y hy
      rcases List.mem_append.1 hy with hy | hy
      · exact a3 y hy
      · exact he _ hk y hy
    · exact fqF_fuel he f g a3 hs (by omega) (by omega)
theorem fqF_step {C : List In} {E : List Int} {S : List St} {us : Nat → List Int} {n : Nat} (he : ∀ k, k < n → Stn n (us k)) {G m k : Nat} {wk : List Int} {Q : List Bool} (hw : Stn n wk) (hs : Q.length = n) (h1 : wk.length + tot us Q n < G) (hm : wk.length = m + 1) (hk : hAt wk m = (k : Int)) :
    fqF C E S us G wk Q = if (!qAt Q k && isqP C E S Q k) = true then fqF C E S us G (wk.take m ++ us k) (Q.set k true) else fqF C E S us G (wk.take m) Q := by
  obtain ⟨G', rfl⟩ : ∃ G', G = G' + 1 := ⟨G - 1, by omega⟩
  have h0 : wk ≠ [] := fun e => by rw [e] at hm; simp at hm
  obtain ⟨a1, a2, a3⟩ := sp_pop hw h0
  have e1 : wk.length - 1 = m := by omega
  rw [e1, hk] at a1 a2
  rw [e1] at a3
  rw [fqF, if_neg h0, e1, hk, Int.toNat_natCast]
  have ht : (wk.take m).length = m := by simp; omega
  have hkn : k < n := by omega
  split
  · rename_i hq
    rw [Bool.and_eq_true] at hq
    have hq : qAt Q k = false := by simpa using hq.1
    have h3 := tot_set us Q k (by omega) hq n hkn
    refine fqF_fuel he G' (G' + 1) ?_ (by simp [hs]) (by rw [List.length_append]; omega) (by rw [List.length_append]; omega)
    intro y hy
    rcases List.mem_append.1 hy with hy | hy
    · exact a3 y hy
    · exact he k hkn y hy
  · exact fqF_fuel he G' (G' + 1) a3 hs (by omega) (by omega)
structure PtX (w0 w : World) (b cc ce gs gq : Nat) (ac ae : Option Addr) (enc : Bool) (C : List In) (E : List Int) (S : List St) (Q : List Bool) (vb : Value) : Prop where
  p : PtS w b cc ce gs gq ac ae enc C E S Q vb
  old : Below w0.heap.size w0 w
  code0 : IRow w0 ac C
  ent0 : Row .i64 w0 ae E
  hq : w0.heap.size ≤ gq
  hb : w0.heap.size ≤ b
section
variable {w0 w w' : World} {b cc ce gs gq : Nat} {ac ae : Option Addr} {enc : Bool} {C : List In} {E : List Int} {S : List St} {Q : List Bool} {vb : Value}
theorem PtX.later (h : PtX w0 w b cc ce gs gq ac ae enc C E S Q vb) (hB : Below w.heap.size w w') : PtX w0 w' b cc ce gs gq ac ae enc C E S Q vb := ⟨h.p.later hB, below_to h.old hB, h.code0, h.ent0, h.hq, h.hb⟩
theorem PtX.upd {T : Nat → Prop} (h : PtX w0 w b cc ce gs gq ac ae enc C E S Q vb) (hu : Upd T w w') (h0 : ∀ q, T q → w0.heap.size ≤ q) (h1 : ¬ T b) (h2 : ¬ T gs) (h3 : ¬ T gq) : PtX w0 w' b cc ce gs gq ac ae enc C E S Q vb := by
  have ho := below_to2 h.old hu h0
  exact ⟨⟨h.p.blk.upd hu h1, h.code0.later ho, h.ent0.later ho, h.p.st.upd hu h2, h.p.len, h.p.qt.upd hu h3, h.p.qlen⟩, ho, h.code0, h.ent0, h.hq, h.hb⟩
theorem PtX.bq (h : PtX w0 w b cc ce gs gq ac ae enc C E S Q vb) : b ≠ gq := fun e => by
  have h1 := h.p.blk
  rw [e] at h1
  exact absurd (blk_type h1 h.p.qt) (by decide)
theorem PtX.sq (h : PtX w0 w b cc ce gs gq ac ae enc C E S Q vb) : gs ≠ gq := fun e => by
  have h1 := h.p.st
  rw [e] at h1
  exact absurd (blk_type h1 h.p.qt) (by decide)
theorem PtX.setQ (h : PtX w0 w b cc ce gs gq ac ae enc C E S Q vb) (k : Nat) : PtX w0 (w.setCell ⟨gq, k, none⟩ (.bool true)) b cc ce gs gq ac ae enc C E S (Q.set k true) vb ∧ Upd (fun q => q = gq) w (w.setCell ⟨gq, k, none⟩ (.bool true)) := by
  have hu : Upd (fun q => q = gq) w (w.setCell ⟨gq, k, none⟩ (.bool true)) := (Upd.refl _ w).set _ _ (.inl rfl)
  have ho := below_to2 h.old hu (fun q e => by rw [e]; exact h.hq)
  exact ⟨⟨⟨h.p.blk.upd hu h.bq, h.code0.later ho, h.ent0.later ho, h.p.st.upd hu h.sq, h.p.len, bset h.p.qt, by rw [List.length_set]; exact h.p.qlen⟩, ho, h.code0, h.ent0, h.hq, h.hb⟩, hu⟩
end
def usP (C : List In) (E : List Int) (S : List St) (n : Nat) (k : Nat) : List Int := uA (revF (qbyP C E) S n 0 (List.replicate n [])) k
def quietP (C : List In) (E : List Int) (S : List St) (n : Nat) (Q : List Bool) : List Bool := fqF C E S (usP C E S n) (n + tot (usP C E S n) Q n + 2) (retF C S n 0 []) Q
theorem qby_len {enc : Bool} {C : List In} {E : List Int} (hC : CeOk enc C E) {k : Nat} (hk : k < C.length) : (qbyP C E k).length ≤ 65 := by
  have := ways_len hC.cd hk
  unfold qbyP
  split
  · rw [List.length_append, List.length_singleton]; omega
  · omega
theorem qby_in {enc : Bool} {C : List In} {E : List Int} (hC : CeOk enc C E) {k : Nat} (hk : k < C.length) (h : Inn C k) : Stn C.length (qbyP C E k) := by
  unfold qbyP
  split
  · rename_i ho
    intro y hy
    rcases List.mem_append.1 hy with hy | hy
    · exact h y hy
    · rw [List.mem_singleton] at hy
      have h1 := hC.cal k hk ho
      have h2 := hC.ent (inA C k).c.toNat (by omega)
      rw [hy]
      exact h2
  · exact h
theorem enQby (args : Array Value) (w : World) : (callFunc 54 args).run Tryz.prog w = .ok (.enter 54 args) w := by kernel_rfl
def FqTo (w0 w : World) (b cc ce gs gq : Nat) (ac ae : Option Addr) (enc : Bool) (C : List In) (E : List Int) (S : List St) (Q : List Bool) (vb : Value) (e : Ending) (w' : World) : Prop := e = .returned (.tuple #[]) ∧ PtX w0 w' b cc ce gs gq ac ae enc C E S Q vb ∧ Upd (fun q => q = gq) w w'
set_option maxRecDepth 100000 in
set_option maxHeartbeats 16000000 in
theorem findQuiet_any (w0 : World) (b cc ce gs gq n : Nat) (ac ae : Option Addr) (enc : Bool) (C : List In) (E : List Int) (S : List St) (Q : List Bool) (vb : Value) (w : World) (hn : C.length = n) (hn9 : n ≤ 1048576) (hcc : C.length ≤ cc) (hcl : cc ≤ 9223372036854775807) (hC : Hid (CeOk enc C E)) (hI : Hid (∀ k, k < n → cameP S k = true → Inn C k)) (h : Hid (PtX w0 w b cc ce gs gq ac ae enc C E S Q vb)) :
    Calls Tryz.prog 36 #[.pointer (some ⟨b, 0, none⟩)] w fun e w' => FqTo w0 w b cc ce gs gq ac ae enc C E S (quietP C E S n Q) vb e w' := by
  obtain ⟨R, hR⟩ : ∃ R, quietP C E S n Q = R := ⟨_, rfl⟩
  rw [hR]
  unfold quietP at hR
  obtain ⟨U, hU⟩ : ∃ U, revF (qbyP C E) S n 0 (List.replicate n []) = U := ⟨_, rfl⟩
  have hus : usP C E S n = uA U := by funext k; unfold usP; rw [hU]
  rw [hus] at hR
  obtain ⟨rU, rS, rM⟩ := revF_ok (ed := qbyP C E) (S := S) (n := n) (fun k hk hc => by rw [← hn]; exact qby_in hC.out (by omega) (hI.out k hk hc)) (fun k hk => qby_len hC.out (by omega)) n 0 (List.replicate n []) (by omega) (by simp) (usr_new _ _ _)
  rw [hU] at rU rS rM
  rw [sum_new] at rS
  have hTot : ∀ q : List Bool, tot (uA U) q n ≤ 65 * n := fun q => by
    have h1 := tot_sum U q n (by omega)
    rw [List.take_of_length_le (by omega)] at h1
    omega
  have HTot := hide_ hTot
  have HUs : Hid (∀ k, StC S n (uA U k)) := hide_ (fun k y hy => by
    obtain ⟨j, hj, e, hc, -⟩ := rM k y hy
    rw [e]
    exact ⟨by omega, by omega, by rw [Int.toNat_natCast]; exact hc⟩)
  obtain ⟨rW, rL⟩ := retF_ok (C := C) (S := S) (n := n) n 0 [] (by omega) (fun y hy => by cases hy) (by simp)
  obtain ⟨W, hW⟩ : ∃ W, retF C S n 0 [] = W := ⟨_, rfl⟩
  rw [hW] at rW rL hR
  obtain ⟨G, hG⟩ : ∃ G, n + tot (uA U) Q n + 2 = G := ⟨_, rfl⟩
  rw [hG] at hR
  have HR := hide_ hR
  have HG := hide_ hG
  have HW := hide_ hW
  have HrW := hide_ rW
  have HrL := hide_ rL
  have HRev := hide_ (reversed_any 54 (.pointer (some ⟨b, 0, none⟩)) (qbyP C E) b cc ce gs gq n ac ae enc C E S Q vb w hn hn9 (hide_ h.out.p)
    (hide_ (fun k hk hc => by rw [← hn]; exact qby_in hC.out (by omega) (hI.out k hk hc))) (hide_ (fun k hk => qby_len hC.out (by omega)))
    (hide_ (fun k w' hk hc hB => quietBy_any b cc ce gs gq ac ae enc C E S Q vb k w' (by omega) hcc hcl hC (hide_ (h.out.p.later hB)))) enQby)
  rw [hU] at HRev
  have Hn := hide_ hn
  clear hR hU hus rU rS rM hTot rW rL hW hG
  go_enter Tryz.func36, Tryz.ntmps36
  go_wp2_with fail
  refine HRev.out.mono ?_
  rintro e w1 hT
  obtain ⟨gb, vs, rfl, hgb, hK1, hU1, hB1⟩ := hT
  have HK1 := hide_ hK1
  have HB1 := hide_ hB1
  have HUl := hide_ hU1
  have HP1 := hide_ (h.out.later hB1)
  have c1 := HP1.out.p.cells.2.1
  rw [hn] at c1
  have Hgq : Hid (gq < w.heap.size) := hide_ h.out.p.qt.lt
  have Hgb := hide_ hgb
  clear HRev hK1 hB1 hU1 hgb
  go_wp2_with fail
  clear c1
  go_loopw [3, 17] (fun x3 x17 wr => ∃ (j : Nat) (wk : List Int) (vw : Value), vw = x3 ∧ j ≤ n ∧ x17 = .int .i64 (j : Int) ∧ Hid (retF C S (n - j) j wk = W) ∧ Hid (wk.length ≤ j) ∧ Hid (IOwn wr w.heap.size vw wk) ∧ Hid (BkR wr w.heap.size gb vs U) ∧ Hid (∀ (i : Nat) (u : Value) (q : Nat), vs[i]? = some u → u.ownBlock = some q → vw.ownBlock ≠ some q) ∧ Hid (PtX w0 wr b cc ce gs gq ac ae enc C E S Q vb) ∧ Hid (Below w.heap.size w wr)) (fun _ x17 _ => n - (intOf x17).toNat)
  case atStart => exact ⟨0, [], _, rfl, by omega, rfl, hide_ (by rw [Nat.sub_zero]; exact HW.out), hide_ (by simp), hide_ (IOwn.nil _ _), HK1, hide_ (fun i u q _ _ e => by cases e), HP1, HB1⟩
  case round =>
    clear HW HK1 HP1 HB1
    obtain ⟨j, wk, vw, rfl, hj, rfl, HRj, HLj, HOj, HKj, HSj, HPj, HBj⟩ := hrel
    generalize wr = wq at *
    have Hz0 : Hid (w0.heap.size ≤ w.heap.size) := hide_ h.out.old.size
    by_cases hlt : j < n
    · have hlt' : (j : Int) < (n : Int) := by omega
      have hjC : j < C.length := by rw [Hn.out]; exact hlt
      obtain ⟨x, hx⟩ : ∃ x, C[j]? = some x := ⟨_, List.getElem?_eq_getElem hjC⟩
      have hxA : inA C j = x := inA_at hx
      have hrj := HRj.out
      rw [show n - j = (n - (j + 1)) + 1 by omega, retF, hxA] at hrj
      have HRj2 := hide_ hrj
      obtain ⟨bc, oc, hac⟩ := HPj.out.p.adr hjC
      subst hac
      obtain ⟨i0, i1, i2, i3⟩ := HPj.out.p.code.at hx
      obtain ⟨w2, hw2⟩ : ∃ wx, wq.alloc (.cells #[.int .i64 x.op, .int .i64 x.a, .int .i64 x.b, .int .i64 x.c] 37) = wx := ⟨_, rfl⟩
      have hB2 : Below wq.heap.size wq w2 := by rw [← hw2]; exact below1 _ _
      have KX : Blk w2 wq.heap.size 37 (inc x) := by rw [← hw2]; exact Blk.newA wq _ _
      obtain ⟨k0, k1, k2, k3⟩ := KX.ci
      have HO2 := hide_ (HOj.out.later hB2)
      have HK2 := hide_ (HKj.out.later hB2)
      have HP2 := hide_ (HPj.out.later hB2)
      have HB2 := hide_ (below_to HBj.out hB2)
      have HCa := hide_ (cameTo_any b cc ce gs gq _ ae enc C E S Q vb j w2 hjC (hide_ HP2.out.p))
      obtain ⟨d, hd⟩ : ∃ d, cameP S j = d := ⟨_, rfl⟩
      rw [hd] at HCa
      have Hd := hide_ hd
      clear hrj hx hxA hB2 KX HOj HKj HPj HBj HRj hd
      by_cases ho : x.op = 20
      · have f0 : (x.op == 20) = true := by simpa using ho
        cases d
        · have HR3 : Hid (retF C S (n - (j + 1)) (j + 1) wk = W) := hide_ (by
            have h1 := HRj2.out
            rw [if_neg (by rw [Hd.out]; simp)] at h1
            exact h1)
          clear HRj2 ho
          go_wp2_with fail
          refine HCa.out.mono ?_
          rintro e w3 ⟨rfl, rfl⟩
          go_wp2_with fail
          go_roundw
          case rel => exact ⟨j + 1, wk, vw, rfl, by omega, by go_num, HR3, hide_ (by have := HLj.out; omega), HO2, HK2, HSj, HP2, HB2⟩
          case measure => simp [intOf]; omega
        · have HR3 : Hid (retF C S (n - (j + 1)) (j + 1) (wk ++ [(j : Int)]) = W) := hide_ (by
            have h1 := HRj2.out
            rw [if_pos ⟨ho, Hd.out⟩] at h1
            exact h1)
          obtain ⟨g, cp, w3, hr3, hO3, hU3, hg3⟩ := HO2.out.push (j : Int) (by have := HLj.out; omega) (Nat.le_trans HB2.out.size (Nat.le_refl _))
          have HRun := hide_ hr3
          have HO3 := hide_ hO3
          have HK3 := hide_ (HK2.out.upd hU3 (fun e => HO2.out.neB HK2.out.blk (by decide) e) (fun i u q hu e e2 => HSj.out i u q hu e e2))
          have HP3 := hide_ (HP2.out.upd hU3 (fun q e => Nat.le_trans Hz0.out (HO2.out.lies e).1) (fun e => HO2.out.neB HP2.out.p.blk (by decide) e) (fun e => HO2.out.neB HP2.out.p.st (by decide) e) (fun e => HO2.out.neB HP2.out.p.qt (by decide) e))
          have HB3 := hide_ (below_to2 HB2.out hU3 (fun q e => (HO2.out.lies e).1))
          have HS3 : Hid (∀ (i : Nat) (u : Value) (q : Nat), vs[i]? = some u → u.ownBlock = some q → (Value.slice (some ⟨g, 0, none⟩) (wk.length + 1) cp).ownBlock ≠ some q) := hide_ (fun i u q hu e e2 => by
            have e3 : g = q := by injection e2
            rcases hg3 with h6 | h6
            · exact HSj.out i u q hu e (by rw [h6, e3])
            · have h7 := ((HK2.out.own i u hu).lies e).2
              omega)
          clear HRj2 ho hr3 hO3 hU3 hg3 HO2 HK2 HP2 HB2 HSj
          go_wp2_with fail
          refine HCa.out.mono ?_
          rintro e w4 ⟨rfl, rfl⟩
          go_wp2_with (first | (at_builtin; refine wpList_append_run rfl (.tmp 30) (.tmp 32) 23 23 rfl rfl rfl HRun.out ?_; clear HRun) | fail)
          go_roundw
          case rel => exact ⟨j + 1, _, _, rfl, by omega, by go_num, HR3, hide_ (by have := HLj.out; rw [List.length_append, List.length_singleton]; omega), HO3, HK3, HS3, HP3, HB3⟩
          case measure => simp [intOf]; omega
      · have f0 : (x.op == 20) = false := by simpa using ho
        have HR3 : Hid (retF C S (n - (j + 1)) (j + 1) wk = W) := hide_ (by
          have h1 := HRj2.out
          rw [if_neg (fun e => ho e.1)] at h1
          exact h1)
        clear HRj2 ho
        go_wp2_with fail
        go_roundw
        case rel => exact ⟨j + 1, wk, vw, rfl, by omega, by go_num, HR3, hide_ (by have := HLj.out; omega), HO2, HK2, HSj, HP2, HB2⟩
        case measure => simp [intOf]; omega
    · have hlt' : ¬ ((j : Int) < (n : Int)) := by omega
      have hwk : wk = W := by
        have h1 := HRj.out
        rw [show n - j = 0 by omega, retF] at h1
        exact h1
      subst hwk
      clear HRj HLj
      go_wp2_with fail
      go_loopg [3, 6] (wk.length + tot (uA U) Q n) (fun gk x3 x6 wr => ∃ (st : List Int) (Q' : List Bool) (vz : Value), vz = x3 ∧ Hid (st.length + tot (uA U) Q' n = gk) ∧ Hid (gk < G) ∧ Hid (fqF C E S (uA U) G st Q' = R) ∧ Hid (StC S n st) ∧ Hid (Q'.length = n) ∧ Hid (IOwn wr w.heap.size vz st) ∧ Hid (BkR wr w.heap.size gb vs U) ∧ Hid (∀ (i : Nat) (u : Value) (q : Nat), vs[i]? = some u → u.ownBlock = some q → vz.ownBlock ≠ some q) ∧ Hid (PtX w0 wr b cc ce gs gq ac ae enc C E S Q' vb) ∧ Hid (Upd (fun q => q = gq) w wr))
      case atStart => exact ⟨wk, Q, vw, rfl, hide_ rfl, hide_ (by have h1 := HrL.out; have h2 := HG.out; omega), HR, HrW, hide_ (by rw [HPj.out.p.qlen]; exact Hn.out), HOj, HKj, HSj, HPj, hide_ (Upd.of_below HBj.out)⟩
      case round =>
        clear HR HrW HOj HKj HSj HPj HBj
        obtain ⟨st, Q', vz, rfl, Hgk, HGb, HRj, HSt, HQl, HOz, HKz, HSz, HPz, HUz⟩ := hrel
        generalize wr = wp at *
        have HG9 : Hid (G ≤ 900000000) := hide_ (by have h1 := HG.out; have h2 := HTot.out Q; omega)
        by_cases h0 : st = []
        · subst h0
          obtain ⟨a, c, hv⟩ := HOz.out.slice
          have hv : vz = .slice a 0 c := hv
          subst hv
          have HX : Hid (FqTo w0 w b cc ce gs gq ac ae enc C E S R vb (.returned (.tuple #[])) wp) := hide_ (by
            have h1 := HRj.out
            obtain ⟨G', hG'⟩ : ∃ G', G = G' + 1 := ⟨G - 1, by have := HGb.out; omega⟩
            rw [hG', fqF, if_pos rfl] at h1
            rw [← h1]
            exact ⟨rfl, HPz.out, HUz.out⟩)
          go_wp2_with fail
          go_end0
          exact HX.out
        · have hl0 : 0 < st.length := List.length_pos_iff.2 h0
          obtain ⟨g, c, hv, hcv, hgB, hgL⟩ := HOz.out.open hl0
          obtain ⟨m, hm⟩ : ∃ m, st.length = m + 1 := ⟨st.length - 1, by omega⟩
          rw [hm] at hv hcv
          subst hv
          obtain ⟨a1, a2, -⟩ := sp_pop HSt.out.stn h0
          rw [show st.length - 1 = m by omega] at a1 a2
          have hcame := (HSt.out _ (hAt_mem (l := st) (i := m) (by omega))).2.2
          obtain ⟨k, hk⟩ := Int.eq_ofNat_of_zero_le a1
          rw [hk, Int.toNat_natCast] at hcame
          have hkn : k < n := by omega
          have hkC : k < C.length := by rw [Hn.out]; exact hkn
          obtain ⟨cy, -⟩ := HOz.out.cellH (i := m) (by omega)
          rw [hk] at cy
          have c4 := HPz.out.p.cells.2.2.2.2.1
          rw [Hn.out] at c4
          have cq := HPz.out.p.qtAt hkC
          have hst := fqF_step (C := C) (E := E) (S := S) (us := uA U) (G := G) (fun k _ => (HUs.out k).stn) HSt.out.stn HQl.out (by have := Hgk.out; have := HGb.out; omega) hm hk
          rw [HRj.out] at hst
          have Hst := hide_ hst
          have hmb : m < 1000000000 := by have := Hgk.out; have := HGb.out; have := HG9.out; omega
          have hw1 : IntKind.i64.wrap ((m : Int) + 1 - 1) = (m : Int) := by rw [i64w _ (by omega)]; omega
          have Hcut := hide_ (HOz.out.cutV (m := m) hm (by omega))
          have Ha3 := hide_ (HSt.out.take m)
          have Hm := hide_ hm
          have hcv' : (m : Int) + 1 ≤ (c : Int) := by omega
          have hkn' : (k : Int) < (n : Int) := by omega
          have Htk : Hid ((st.take m).length = m) := hide_ (by rw [List.length_take]; omega)
          have HIs := hide_ (isQuiet_any b cc ce gs gq ac ae enc C E S Q' vb k wp hkC hcc hcl hC (hide_ (hI.out k hkn hcame)) (hide_ HPz.out.p))
          obtain ⟨d, hd⟩ : ∃ d, qAt Q' k = d := ⟨_, rfl⟩
          rw [hd] at cq
          have Hd := hide_ hd
          obtain ⟨z, hz⟩ : ∃ z, isqP C E S Q' k = z := ⟨_, rfl⟩
          rw [hz] at HIs
          have Hz := hide_ hz
          have HM5 : Hid ((st.take m).length + tot (uA U) Q' n < gk) := hide_ (by
            have h1 := Hgk.out
            have h2 := Hm.out
            have h3 := Htk.out
            omega)
          clear hst a1 a2 hk hm hl0 h0 hd hz HRj hcame
          cases d
          · cases z
            · have HR5 : Hid (fqF C E S (uA U) G (st.take m) Q' = R) := hide_ (by
                have h1 := Hst.out
                rw [Hd.out, Hz.out, if_neg (by simp)] at h1
                exact h1.symm)
              clear Hst
              go_wp2_with fail
              refine HIs.out.mono ?_
              rintro e w3 ⟨rfl, hB3⟩
              have HO3 := hide_ (Hcut.out.later hB3)
              have HK3 := hide_ (HKz.out.later hB3)
              have HP3 := hide_ (HPz.out.later hB3)
              have HU3 := hide_ (HUz.out.then hB3)
              clear hB3
              go_wp2_with fail
              go_roundg ((st.take m).length + tot (uA U) Q' n)
              case measure => exact HM5.out
              case rel => exact ⟨st.take m, Q', _, rfl, hide_ rfl, hide_ (by have h1 := HM5.out; have h2 := HGb.out; omega), HR5, Ha3, HQl, HO3, HK3, hide_ (fun i u q hu e => HSz.out i u q hu e), HP3, HU3⟩
            · have HR5 : Hid (fqF C E S (uA U) G (st.take m ++ uA U k) (Q'.set k true) = R) := hide_ (by
                have h1 := Hst.out
                rw [Hd.out, Hz.out, if_pos (by simp)] at h1
                exact h1.symm)
              have h3 := tot_set (uA U) Q' k (by rw [HQl.out]; exact hkn) Hd.out n hkn
              have HM6 : Hid ((st.take m ++ uA U k).length + tot (uA U) (Q'.set k true) n < gk) := hide_ (by
                have h1 := HM5.out
                rw [List.length_append]
                omega)
              have Hel : Hid ((st.take m).length + (uA U k).length ≤ 1000000000) := hide_ (by have h1 := HM5.out; have h2 := HGb.out; have h4 := HG9.out; omega)
              clear Hst h3
              go_wp2_with fail
              refine HIs.out.mono ?_
              rintro e w3 ⟨rfl, hB3⟩
              have HO3 := hide_ (Hcut.out.later hB3)
              have HK3 := hide_ (HKz.out.later hB3)
              have HP3 := hide_ (HPz.out.later hB3)
              have HU3 := hide_ (HUz.out.then hB3)
              have d4 := HP3.out.p.cells.2.2.2.2.1
              rw [Hn.out] at d4
              have dq := HP3.out.p.qtAt hkC
              have zq := HP3.out.p.qt.frozen k
              obtain ⟨w4, hw4⟩ : ∃ wx, w3.setCell ⟨gq, k, none⟩ (.bool true) = wx := ⟨_, rfl⟩
              obtain ⟨hP4, hU4⟩ := HP3.out.setQ k
              rw [hw4] at hP4 hU4
              have hO4 := HO3.out.upd hU4 (fun q e e2 => HO3.out.neB HP3.out.p.qt (by decide) (e2 ▸ e))
              have hK4 := HK3.out.upd hU4 (fun e => absurd (blk_type (e ▸ HK3.out.blk) HP3.out.p.qt) (by decide)) (fun i u q hu e e2 => (HK3.out.own i u hu).neB HP3.out.p.qt (by decide) (e2 ▸ e))
              have hkv : k < vs.length := by rw [hK4.len, HUl.out]; exact hkn
              obtain ⟨u, hu⟩ : ∃ u, vs[k]? = some u := ⟨_, List.getElem?_eq_getElem hkv⟩
              have cu := (hK4.blk.cell k).trans hu
              obtain ⟨a4, c4', eu, hr4, hn4, -⟩ := (hK4.own k u hu).row
              obtain ⟨v5, w5, hr5, hO5, hU5, hg5⟩ := hO4.app hr4 hn4 Hel.out (Nat.le_trans (Nat.le_trans HUz.out.size (Nat.le_trans hB3.size hU4.size)) (Nat.le_refl _))
              have HRun := hide_ hr5
              have HO5 := hide_ hO5
              have HK5 := hide_ (hK4.upd hU5 (fun e => hO4.neB hK4.blk (by decide) e) (fun i t q ht e e2 => HSz.out i t q ht e e2))
              have HP5 := hide_ (hP4.upd hU5 (fun q e => Nat.le_trans Hz0.out (hO4.lies e).1) (fun e => hO4.neB hP4.p.blk (by decide) e) (fun e => hO4.neB hP4.p.st (by decide) e) (fun e => hO4.neB hP4.p.qt (by decide) e))
              have HU5 := hide_ ((HU3.out.to hU4).trans hU5 (fun q hq e => absurd hq (Nat.not_lt.2 (hO4.lies e).1)))
              have HS5 : Hid (∀ (i : Nat) (t : Value) (q : Nat), vs[i]? = some t → t.ownBlock = some q → v5.ownBlock ≠ some q) := hide_ (fun i t q ht e e2 => by
                rcases hg5 q e2 with h6 | h6
                · exact HSz.out i t q ht e h6
                · have h7 := ((hK4.own i t ht).lies e).2
                  omega)
              have HS6 : Hid (StC S n (st.take m ++ uA U k)) := hide_ (Ha3.out.app (HUs.out k))
              have HQ5 : Hid ((Q'.set k true).length = n) := hide_ (by rw [List.length_set]; exact HQl.out)
              subst eu
              clear hB3 hP4 hU4 hO4 hK4 hkv hu hr4 hn4 hr5 hO5 hU5 hg5 HO3 HK3 HP3 HU3
              go_wp2_with (first | (at_builtin; refine wpList_append_run rfl (.tmp 68) (.tmp 72) 23 23 rfl rfl rfl HRun.out ?_; clear HRun) | fail)
              go_roundg ((st.take m ++ uA U k).length + tot (uA U) (Q'.set k true) n)
              case measure => exact HM6.out
              case rel => exact ⟨_, _, v5, rfl, hide_ rfl, hide_ (by have h1 := HM6.out; have h2 := HGb.out; omega), HR5, HS6, HQ5, HO5, HK5, HS5, HP5, HU5⟩
          · have HR5 : Hid (fqF C E S (uA U) G (st.take m) Q' = R) := hide_ (by
              have h1 := Hst.out
              rw [Hd.out, if_neg (by simp)] at h1
              exact h1.symm)
            clear Hst HIs
            go_wp2_with fail
            go_roundg ((st.take m).length + tot (uA U) Q' n)
            case measure => exact HM5.out
            case rel => exact ⟨st.take m, Q', _, rfl, hide_ rfl, hide_ (by have h1 := HM5.out; have h2 := HGb.out; omega), HR5, Ha3, HQl, Hcut, HKz, hide_ (fun i u q hu e => HSz.out i u q hu e), HPz, HUz⟩
def fnF (ed : Nat → List Int) : Nat → List Int → List Bool → List Int → List Bool × List Int
  | 0, _, s, o => (s, o)
  | f + 1, wk, s, o => if wk = [] then (s, o) else
    if hAt wk (wk.length - 1) < 0 then fnF ed f (wk.take (wk.length - 1)) s (o ++ [-hAt wk (wk.length - 1) - 1]) else
    if qAt s (hAt wk (wk.length - 1)).toNat then fnF ed f (wk.take (wk.length - 1)) s o
    else fnF ed f (wk.take (wk.length - 1) ++ [-hAt wk (wk.length - 1) - 1] ++ ed (hAt wk (wk.length - 1)).toNat) (s.set (hAt wk (wk.length - 1)).toNat true) o
def ed1 (ed : Nat → List Int) (k : Nat) : List Int := 0 :: ed k
def Stm (n : Nat) (wk : List Int) : Prop := ∀ y ∈ wk, -(n : Int) ≤ y ∧ y < (n : Int)
theorem Stn.stm {n : Nat} {wk : List Int} (h : Stn n wk) : Stm n wk := fun y hy => by have := h y hy; omega
theorem Stm.app {n : Nat} {a c : List Int} (h : Stm n a) (k : Stm n c) : Stm n (a ++ c) := fun y hy => by
  rcases List.mem_append.1 hy with hy | hy
  · exact h y hy
  · exact k y hy
theorem Stm.take {n : Nat} {a : List Int} (h : Stm n a) (m : Nat) : Stm n (a.take m) := fun y hy => h y (List.mem_of_mem_take hy)
theorem fnF_fuel {ed : Nat → List Int} {n : Nat} (he : ∀ k, k < n → Stn n (ed k)) : ∀ (f g : Nat) {wk : List Int} {s : List Bool} {o : List Int}, Stm n wk → s.length = n → wk.length + tot (ed1 ed) s n < f → wk.length + tot (ed1 ed) s n < g → fnF ed f wk s o = fnF ed g wk s o
  | 0, g, wk, s, o, _, _, h, _ => by omega
  | f + 1, 0, wk, s, o, _, _, _, h => by omega
  | f + 1, g + 1, wk, s, o, hw, hs, h1, h2 => by
    unfold fnF
    by_cases h0 : wk = []
    · rw [if_pos h0, if_pos h0]
    rw [if_neg h0, if_neg h0]
    have hl : 0 < wk.length := List.length_pos_iff.2 h0
    have hb := hw _ (hAt_mem (l := wk) (i := wk.length - 1) (by omega))
    have ht : (wk.take (wk.length - 1)).length = wk.length - 1 := by simp
    split
    · exact fnF_fuel he f g (hw.take _) hs (by omega) (by omega)
    split
    · exact fnF_fuel he f g (hw.take _) hs (by omega) (by omega)
    · rename_i hneg hq
      have hk : (hAt wk (wk.length - 1)).toNat < n := by omega
      have hq : qAt s (hAt wk (wk.length - 1)).toNat = false := by simpa using hq
      have h3 := tot_set (ed1 ed) s _ (by omega) hq n hk
      have e1 : (ed1 ed (hAt wk (wk.length - 1)).toNat).length = (ed (hAt wk (wk.length - 1)).toNat).length + 1 := by simp [ed1]
      refine fnF_fuel he f g (((hw.take _).app (fun y hy => by rw [List.mem_singleton] at hy; omega)).app (he _ hk).stm) (by simp [hs]) ?_ ?_
      · rw [List.length_append, List.length_append, List.length_singleton]; omega
      · rw [List.length_append, List.length_append, List.length_singleton]; omega
theorem fnF_step {ed : Nat → List Int} {n : Nat} (he : ∀ k, k < n → Stn n (ed k)) {G m : Nat} {y : Int} {wk : List Int} {s : List Bool} {o : List Int} (hw : Stm n wk) (hs : s.length = n) (h1 : wk.length + tot (ed1 ed) s n < G) (hm : wk.length = m + 1) (hy : hAt wk m = y) :
    fnF ed G wk s o = if y < 0 then fnF ed G (wk.take m) s (o ++ [-y - 1]) else if qAt s y.toNat then fnF ed G (wk.take m) s o else fnF ed G (wk.take m ++ [-y - 1] ++ ed y.toNat) (s.set y.toNat true) o := by
  obtain ⟨G', rfl⟩ : ∃ G', G = G' + 1 := ⟨G - 1, by omega⟩
  have h0 : wk ≠ [] := fun e => by rw [e] at hm; simp at hm
  have e1 : wk.length - 1 = m := by omega
  have hb := hw _ (hAt_mem (l := wk) (i := m) (by omega))
  rw [hy] at hb
  rw [fnF, if_neg h0, e1, hy]
  have ht : (wk.take m).length = m := by simp; omega
  split
  · exact fnF_fuel he G' (G' + 1) (hw.take _) hs (by omega) (by omega)
  split
  · exact fnF_fuel he G' (G' + 1) (hw.take _) hs (by omega) (by omega)
  · rename_i hneg hq
    have hk : y.toNat < n := by omega
    have hq : qAt s y.toNat = false := by simpa using hq
    have h3 := tot_set (ed1 ed) s _ (by omega) hq n hk
    have e2 : (ed1 ed y.toNat).length = (ed y.toNat).length + 1 := by simp [ed1]
    refine fnF_fuel he G' (G' + 1) (((hw.take _).app (fun z hz => by rw [List.mem_singleton] at hz; omega)).app (he _ hk).stm) (by simp [hs]) ?_ ?_
    · rw [List.length_append, List.length_append, List.length_singleton]; omega
    · rw [List.length_append, List.length_append, List.length_singleton]; omega
def Kpp (S S' : List St) : Prop := ∀ j, (stA S j).pl ≠ 0 → (stA S' j).pl ≠ 0
theorem Kpp.refl (S : List St) : Kpp S S := fun _ h => h
theorem Kpp.trans {S S' S'' : List St} (h : Kpp S S') (k : Kpp S' S'') : Kpp S S'' := fun j hj => k j (h j hj)
theorem handP_keep {enc : Bool} {C : List In} {r : Int} {S : List St} {P : List Int} {k : Nat} {s : St} (hk : k < S.length) (hs : s.pl ≠ 0) : Kpp S (handP enc C r S P k s).2.1 ∧ ((handP enc C r S P k s).1 = true → (stA (handP enc C r S P k s).2.1 k).pl ≠ 0) := by
  unfold handP
  split
  · rename_i he
    exact ⟨Kpp.refl _, fun _ => by rw [(stEq_iff _ _).1 he]; exact hs⟩
  split
  · refine ⟨fun j hj => ?_, fun _ => ?_⟩
    · show (stA (S.set k s) j).pl ≠ 0
      rw [stA_set hk]
      split
      · exact hs
      · exact hj
    · show (stA (S.set k s) k).pl ≠ 0
      rw [stA_set hk, if_pos rfl]
      exact hs
  · rename_i h1 h2
    exact ⟨Kpp.refl _, fun _ => h2⟩
theorem handsP_keep {enc : Bool} {C : List In} {r : Int} {s : St} (hn : C.length ≤ 1048576) (hs : s.pl ≠ 0) (x : In) : ∀ (ws : List Int) (way : Nat) {S : List St} {P : List Int}, Pnd C.length S P → (∀ y ∈ ws, 0 ≤ y ∧ y < (C.length : Int)) → Kpp S (handsP enc C r s x ws way S P).2.1 ∧ ((handsP enc C r s x ws way S P).1 = 1048576 → ∀ y ∈ ws, (stA (handsP enc C r s x ws way S P).2.1 y.toNat).pl ≠ 0)
  | [], _, S, P, _, _ => ⟨Kpp.refl _, fun _ y hy => by cases hy⟩
  | n :: ws, way, S, P, hN, hw => by
    rw [handsP]
    have h1 := hw n (by simp)
    have hk : n.toNat < C.length := by omega
    obtain ⟨a1, a2⟩ := handP_keep (enc := enc) (C := C) (r := r) (P := P) (s := mHd enc s x (way : Int)) (k := n.toNat) (by rw [hN.len]; exact hk) (mHd_pl enc hs x _)
    split
    · rename_i ht
      obtain ⟨b1, b2⟩ := handsP_keep hn hs x ws (way + 1) (handP_ok (enc := enc) (C := C) (r := r) hN hk (mHd_pl enc hs x (way : Int))).1 (fun y hy => hw y (by simp [hy]))
      refine ⟨a1.trans b1, fun h y hy => ?_⟩
      rcases List.mem_cons.1 hy with rfl | hy
      · exact b1 _ (a2 ht)
      · exact b2 h y hy
    · refine ⟨Kpp.refl _, fun h => ?_⟩
      have h : n = 1048576 := h
      omega
def Cls (C : List In) (S : List St) (P : List Int) : Prop := ∀ k, k < C.length → (stA S k).pl ≠ 0 → (k : Int) ∈ P ∨ ∀ y ∈ waysP C k, (stA S y.toNat).pl ≠ 0
theorem handP_cls {enc : Bool} {C : List In} {r : Int} {S : List St} {P : List Int} (hN : Pnd C.length S P) (h : Cls C S P) {k : Nat} (hk : k < C.length) {s : St} (hs : s.pl ≠ 0) : Cls C (handP enc C r S P k s).2.1 (handP enc C r S P k s).2.2 := by
  have hkp := (handP_keep (enc := enc) (C := C) (r := r) (P := P) (s := s) (k := k) (by rw [hN.len]; exact hk) hs).1
  revert hkp
  unfold handP
  split
  · exact fun _ => h
  split
  · intro hkp j hj hp
    show (j : Int) ∈ pushH P (k : Int) ∨ _
    rw [push_mem hN.hp]
    have hp : (stA (S.set k s) j).pl ≠ 0 := hp
    rw [stA_set (by rw [hN.len]; exact hk)] at hp
    by_cases e : j = k
    · exact .inl (.inl (by rw [e]))
    · rw [if_neg e] at hp
      rcases h j hj hp with h1 | h1
      · exact .inl (.inr h1)
      · exact .inr (fun y hy => hkp _ (h1 y hy))
  · exact fun _ => h
theorem handsP_cls {enc : Bool} {C : List In} {r : Int} {s : St} (hs : s.pl ≠ 0) (x : In) (q : Nat) : ∀ (ws : List Int) (way : Nat) {S : List St} {P : List Int}, Pnd C.length S P → (∀ y ∈ ws, 0 ≤ y ∧ y < (C.length : Int)) → (∀ k, k < C.length → k ≠ q → (stA S k).pl ≠ 0 → (k : Int) ∈ P ∨ ∀ y ∈ waysP C k, (stA S y.toNat).pl ≠ 0) → (∀ k, k < C.length → k ≠ q → (stA (handsP enc C r s x ws way S P).2.1 k).pl ≠ 0 → (k : Int) ∈ (handsP enc C r s x ws way S P).2.2 ∨ ∀ y ∈ waysP C k, (stA (handsP enc C r s x ws way S P).2.1 y.toNat).pl ≠ 0)
  | [], _, S, P, _, _, h => h
  | n :: ws, way, S, P, hN, hw, h => by
    rw [handsP]
    have h1 := hw n (by simp)
    have hk : n.toNat < C.length := by omega
    have hm := mHd_pl enc hs x (way : Int)
    have hkp := (handP_keep (enc := enc) (C := C) (r := r) (P := P) (s := mHd enc s x (way : Int)) (k := n.toNat) (by rw [hN.len]; exact hk) hm).1
    split
    · refine handsP_cls hs x q ws (way + 1) (handP_ok (enc := enc) (C := C) (r := r) hN hk hm).1 (fun y hy => hw y (by simp [hy])) ?_
      intro k hkC hkq
      revert hkp
      unfold handP
      split
      · exact fun _ => h k hkC hkq
      split
      · intro hkp hp
        show (k : Int) ∈ pushH P (n.toNat : Int) ∨ _
        rw [push_mem hN.hp]
        have hp : (stA (S.set n.toNat (mHd enc s x (way : Int))) k).pl ≠ 0 := hp
        rw [stA_set (by rw [hN.len]; exact hk)] at hp
        by_cases e : k = n.toNat
        · exact .inl (.inl (by rw [e]))
        · rw [if_neg e] at hp
          rcases h k hkC hkq hp with h1 | h1
          · exact .inl (.inr h1)
          · exact .inr (fun y hy => hkp _ (h1 y hy))
      · exact fun _ => h k hkC hkq
    · exact h
theorem goP_cls {enc : Bool} {C : List In} {r : Int} (hW : WIn C) (hn : C.length ≤ 1048576) : ∀ (f : Nat) {S : List St} {P : List Int}, Pnd C.length S P → msr S P < f → Cls C S P → (goP enc C r f S P).1 = 1048576 → Cls C (goP enc C r f S P).2.1 [] ∧ Kpp S (goP enc C r f S P).2.1
  | 0, S, P, _, h, _, _ => by omega
  | f + 1, S, P, hN, hm, hL, h1 => by
    by_cases h0 : P = []
    · subst h0
      rw [goP_nil]
      exact ⟨hL, Kpp.refl _⟩
    · rw [goP] at h1 ⊢
      rw [if_neg h0] at h1 ⊢
      have hl0 : 0 < P.length := List.length_pos_iff.2 h0
      obtain ⟨q1, q2, q3, q4, q5⟩ := pop_ok hN h0
      have hk : (popH P).1.toNat < C.length := by omega
      have l1 := lookP_ok (enc := enc) (r := r) hW q1 hk q5
      by_cases hz : (lookP enc C r S (popH P).2 (popH P).1.toNat).1 = 1048576
      · rw [if_pos hz] at h1 ⊢
        have hmid : Cls C (lookP enc C r S (popH P).2 (popH P).1.toNat).2.1 (lookP enc C r S (popH P).2 (popH P).1.toNat).2.2 ∧ Kpp S (lookP enc C r S (popH P).2 (popH P).1.toNat).2.1 := by
          unfold lookP at hz ⊢
          by_cases hq : mSt enc (stA S (popH P).1.toNat) (inA C (popH P).1.toNat) r = false ∨ (C.length : Int) ∈ waysP C (popH P).1.toNat
          · rw [if_pos hq] at hz
            have hz : ((popH P).1.toNat : Int) = 1048576 := hz
            omega
          · rw [if_neg hq] at hz ⊢
            have hq2 : (C.length : Int) ∉ waysP C (popH P).1.toNat := fun e => hq (.inr e)
            have hin : ∀ y ∈ waysP C (popH P).1.toNat, 0 ≤ y ∧ y < (C.length : Int) := fun y hy => by
              have h2 := hW _ hk y hy
              have h3 : y ≠ (C.length : Int) := fun e => hq2 (e ▸ hy)
              omega
            obtain ⟨k1, k2⟩ := handsP_keep (enc := enc) (r := r) hn q5 (inA C (popH P).1.toNat) (waysP C (popH P).1.toNat) 0 q1 hin
            refine ⟨fun j hj hp => ?_, k1⟩
            by_cases e : j = (popH P).1.toNat
            · right
              rw [e]
              exact k2 hz
            · refine handsP_cls q5 _ (popH P).1.toNat _ _ q1 hin (fun i hi hne hpi => ?_) j hj e hp
              rcases hL i hi hpi with h2 | h2
              · rcases pop_rest hN.hp hl0 h2 with h3 | h3
                · exact absurd (by rw [← h3, Int.toNat_natCast]) hne
                · exact .inl h3
              · exact .inr h2
        obtain ⟨g1, g2⟩ := goP_cls hW hn f l1.1 (by omega) hmid.1 h1
        exact ⟨g1, hmid.2.trans g2⟩
      · rw [if_neg hz] at h1
        exact absurd h1 hz
theorem thruP_cls {enc : Bool} {C : List In} {r : Int} (hW : WIn C) (hC : CdOk enc C) {S : List St} (hl : S.length = C.length) (hN : Pnd C.length S []) (hL : Cls C S []) {k : Nat} (hk : k < C.length) (h : (thruP enc C r S [] k).1 = 1048576) : Cls C (thruP enc C r S [] k).2.1 [] ∧ Kpp S (thruP enc C r S [] k).2.1 ∧ (stA (thruP enc C r S [] k).2.1 k).pl ≠ 0 := by
  unfold thruP at h ⊢
  obtain ⟨a1, a2⟩ := handP_keep (enc := enc) (C := C) (r := r) (P := []) (s := mBg enc) (k := k) (S := S) (by rw [hl]; exact hk) (mBg_pl enc)
  by_cases hz : (handP enc C r S [] k (mBg enc)).1 = true
  · rw [if_pos hz] at h ⊢
    have h1 := handP_ok (enc := enc) (C := C) (r := r) hN hk (mBg_pl enc)
    have h2 : msr S [] ≤ 2 * C.length := by have := bare_le S; unfold msr; simp; omega
    have h3 := h1.2.1
    obtain ⟨g1, g2⟩ := goP_cls (enc := enc) (r := r) hW hC.nc (2 * C.length + 2) h1.1 (by omega) (handP_cls hN hL hk (mBg_pl enc)) h
    exact ⟨g1, a1.trans g2, g2 k (a2 hz)⟩
  · rw [if_neg hz] at h
    have := hC.nc
    simp at h
    omega
theorem firstP_cls {enc : Bool} {C : List In} (hW : WIn C) (hC : CdOk enc C) : ∀ (E : List Int) (r : Nat) {S : List St}, (∀ e ∈ E, 0 ≤ e ∧ e < (C.length : Int)) → S.length = C.length → Pnd C.length S [] → SAll S → Cls C S [] → (firstP enc C E r S).1 = 1048576 → Cls C (firstP enc C E r S).2 [] ∧ Kpp S (firstP enc C E r S).2 ∧ ∀ e ∈ E, (stA (firstP enc C E r S).2 e.toNat).pl ≠ 0
  | [], r, S, _, hl, _, hS, hL, _ => ⟨hL, Kpp.refl _, fun e he => by cases he⟩
  | e :: es, r, S, he, hl, hN, hS, hL, h => by
    have h1 := he e (by simp)
    have hk : e.toNat < C.length := by omega
    rw [firstP] at h ⊢
    by_cases hz : (thruP enc C (r : Int) S [] e.toNat).1 = 1048576
    · rw [if_pos hz] at h ⊢
      obtain ⟨f1, f2, f3⟩ := thruP_fin hW hC hl hN hS hk hz
      obtain ⟨c1, c2, c3⟩ := thruP_cls hW hC hl hN hL hk hz
      obtain ⟨d1, d2, d3⟩ := firstP_cls hW hC es (r + 1) (fun y hy => he y (by simp [hy])) f2.len f2 f3 c1 h
      refine ⟨d1, c2.trans d2, fun y hy => ?_⟩
      rcases List.mem_cons.1 hy with rfl | hy
      · exact d2 _ c3
      · exact d3 y hy
    · rw [if_neg hz] at h
      exact absurd h hz
end Go.Proofs.YtjamfbpdepahnaaGreat
