import Derived.Test.YtjamfbpdepahnaaGreatPart31
namespace Go.Proofs.YtjamfbpdepahnaaGreat
open Go.RowKit
set_option linter.unusedVariables false
set_option linter.unusedSimpArgs false
def RvTo (w : World) (n : Nat) (U : List (List Int)) (e : Ending) (w' : World) : Prop := ∃ gb vs, e = .returned (.slice (some ⟨gb, 0, none⟩) n n) ∧ w.heap.size ≤ gb ∧ BkR w' w.heap.size gb vs U ∧ U.length = n ∧ Below w.heap.size w w'
set_option maxRecDepth 100000 in
set_option maxHeartbeats 8000000 in
theorem reversed_any (F : Nat) (rv : Value) (ed : Nat → List Int) (b cc ce gs gq n : Nat) (ac ae : Option Addr) (enc : Bool) (C : List In) (E : List Int) (S : List St) (Q : List Bool) (vb : Value) (w : World) (hn : C.length = n) (hn9 : n ≤ 1048576) (h : Hid (PtS w b cc ce gs gq ac ae enc C E S Q vb))
    (he : Hid (∀ k, k < n → cameP S k = true → Stn n (ed k))) (hel : Hid (∀ k, k < n → (ed k).length ≤ 65))
    (hE : Hid (∀ (k : Nat) (w' : World), k < n → cameP S k = true → Below w.heap.size w w' → Calls Tryz.prog F #[rv, .int .i64 (k : Int)] w' fun e w'' => ∃ v, e = .returned v ∧ Hid (IOwn w'' w'.heap.size v (ed k)) ∧ Hid (Below w'.heap.size w' w''))) (hEn : ∀ args w', (callFunc F args).run Tryz.prog w' = .ok (.enter F args) w') :
    Calls Tryz.prog 37 #[.pointer (some ⟨b, 0, none⟩), .func (.func F) #[rv] #[]] w fun e w' => RvTo w n (revF ed S n 0 (List.replicate n [])) e w' := by
  obtain ⟨R, hR⟩ : ∃ R, revF ed S n 0 (List.replicate n []) = R := ⟨_, rfl⟩
  rw [hR]
  have HR := hide_ hR
  have HCa : Hid (∀ (k : Nat) (w' : World), k < n → Below w.heap.size w w' → Calls Tryz.prog 55 #[.pointer (some ⟨b, 0, none⟩), .int .i64 (k : Int)] w' fun e w'' => e = .returned (.bool (cameP S k)) ∧ w' = w'') := hide_ (fun k w' hk hB => cameTo_any b cc ce gs gq ac ae enc C E S Q vb k w' (by omega) (hide_ (h.out.later hB)))
  obtain ⟨-, -, -, c3, -, -⟩ := h.out.cells
  rw [hn] at c3
  obtain ⟨w1, hmk, hK1, hB1⟩ : ∃ w1, (Instr.makeSlice 73 (.int .i64 (n : Int)) (.int .i64 (n : Int))).run Tryz.prog w = .ok (.slice (some ⟨w.heap.size, 0, none⟩) n n) w1 ∧ BkR w1 w.heap.size w.heap.size (List.replicate n (.slice none 0 0)) (List.replicate n []) ∧ Below w.heap.size w w1 := ⟨_, makeB n (by omega) w, BkR.new w n, below1 _ _⟩
  have c4 := (hB1.cell (p := ⟨b, 3, none⟩) h.out.blk.lt).trans c3
  have HK1 := hide_ hK1
  have HB1 := hide_ hB1
  clear hR hK1 hB1 h
  go_enter Tryz.func37, Tryz.ntmps37
  go_wp2_with fail
  clear hmk c3 c4
  go_loopw [20] (fun x20 wr => ∃ (j : Nat) (U : List (List Int)) (vs : List Value), j ≤ n ∧ x20 = .int .i64 (j : Int) ∧ Hid (revF ed S (n - j) j U = R) ∧ Hid (BkR wr w.heap.size w.heap.size vs U) ∧ Hid (U.length = n) ∧ Hid (∀ i, (uA U i).length ≤ 65 * j) ∧ Hid (Below w.heap.size w wr)) (fun x20 _ => n - (intOf x20).toNat)
  case atStart =>
    refine ⟨0, _, _, by omega, rfl, hide_ (by rw [Nat.sub_zero]; exact HR.out), HK1, hide_ (by simp), hide_ (fun i => ?_), HB1⟩
    unfold uA
    by_cases hi : i < n <;> simp [List.getD, hi]
  case round =>
    clear HR HK1 HB1
    obtain ⟨j, U, vs, hj, rfl, HRj, HKj, HUl, HLe, HBj⟩ := hrel
    generalize wr = wq at *
    by_cases hlt : j < n
    · have hlt' : (j : Int) < (n : Int) := by omega
      have hrj := HRj.out
      rw [show n - j = (n - (j + 1)) + 1 by omega, revF] at hrj
      obtain ⟨d, hd⟩ : ∃ d, cameP S j = d := ⟨_, rfl⟩
      have HCj := hide_ (HCa.out j wq hlt HBj.out)
      rw [hd] at HCj hrj
      have Hd := hide_ hd
      have HRj2 := hide_ hrj
      clear hd hrj HRj
      go_wp2_with fail
      refine HCj.out.mono ?_
      rintro e w2 ⟨rfl, rfl⟩
      clear HCj
      cases d
      · have HR3 : Hid (revF ed S (n - (j + 1)) (j + 1) U = R) := hide_ (by
          have h1 := HRj2.out
          rw [if_neg (by simp)] at h1
          exact h1)
        have HL3 : Hid (∀ i, (uA U i).length ≤ 65 * (j + 1)) := hide_ (fun i => by have := HLe.out i; omega)
        clear HRj2
        go_wp2_with fail
        go_roundw
        case rel => exact ⟨j + 1, U, vs, by omega, by go_num, HR3, HKj, HUl, HL3, HBj⟩
        case measure => simp [intOf]; omega
      · obtain ⟨U2, hU2⟩ : ∃ U2, addE j (ed j) U = U2 := ⟨_, rfl⟩
        have HR3 : Hid (revF ed S (n - (j + 1)) (j + 1) U2 = R) := hide_ (by
          have h1 := HRj2.out
          rw [if_pos rfl, hU2] at h1
          exact h1)
        have HU2 := hide_ hU2
        have HEd := hide_ (hE.out j wq hlt Hd.out HBj.out)
        have Hst := hide_ (he.out j hlt Hd.out)
        clear HRj2 hU2
        go_wp2_with fail
        refine HEd.out.mono ?_
        rintro e w4 ⟨v, rfl, HO4, HB4⟩
        have HK4 := hide_ (HKj.out.later HB4.out)
        have HSv : Hid (∀ (i : Nat) (u : Value) (q : Nat), vs[i]? = some u → u.ownBlock = some q → v.ownBlock ≠ some q) := hide_ (fun i u q hu e e2 => by
          have h1 := ((HKj.out.own i u hu).lies e).2
          have h2 := (HO4.out.lies e2).1
          omega)
        have HO5 : Hid (IOwn w4 w.heap.size v (ed j)) := hide_ (own_base HO4.out HBj.out.size)
        have HB5 := hide_ (below_to HBj.out HB4.out)
        obtain ⟨m, hm⟩ : ∃ m, (ed j).length = m := ⟨_, rfl⟩
        obtain ⟨a, c, hv⟩ := HO5.out.slice
        rw [hm] at hv
        have Hm := hide_ hm
        have hm65 : (m : Int) ≤ 65 := by have := hel.out j hlt; omega
        subst hv
        clear HEd HO4 HB4 HKj HBj hm
        go_wp2_with fail
        go_loopw [31] (fun x31 wr => ∃ (i : Nat) (U' : List (List Int)) (vs' : List Value), i ≤ m ∧ x31 = .int .i64 (i : Int) ∧ Hid (addE j ((ed j).drop i) U' = U2) ∧ Hid (BkR wr w.heap.size w.heap.size vs' U') ∧ Hid (U'.length = n) ∧ Hid (∀ q, (uA U' q).length ≤ 65 * j + i) ∧ Hid (IOwn wr w.heap.size (.slice a m c) (ed j)) ∧ Hid (∀ (i : Nat) (u : Value) (q : Nat), vs'[i]? = some u → u.ownBlock = some q → (Value.slice a m c).ownBlock ≠ some q) ∧ Hid (Below w.heap.size w wr)) (fun x31 _ => m - (intOf x31).toNat)
        case atStart => exact ⟨0, U, vs, by omega, rfl, HU2, HK4, HUl, hide_ (fun q => by have := HLe.out q; omega), HO5, HSv, HB5⟩
        case round =>
          clear HU2 HK4 HUl HLe HO5 HSv HB5
          obtain ⟨i, U', vs', hi, rfl, HAi, HKi, HUi, HLi, HOi, HSi, HBi⟩ := hrel
          generalize wr = wp at *
          by_cases hlt2 : i < m
          · have hlt2' : (i : Int) < (m : Int) := by omega
            have hiE : i < (ed j).length := by rw [Hm.out]; exact hlt2
            obtain ⟨g, c', hv, -, -, -⟩ := HOi.out.open (by omega)
            rw [Hm.out] at hv
            injection hv with hv1 _ hv2
            subst hv1 hv2
            obtain ⟨cy, -⟩ := HOi.out.cellH (i := i) hiE
            have hy := Hst.out _ (hAt_mem hiE)
            obtain ⟨k, hk⟩ := Int.eq_ofNat_of_zero_le hy.1
            rw [hk] at cy hy
            have hkn : k < n := by omega
            have hkn' : (k : Int) < (n : Int) := by omega
            have hdr : (ed j).drop i = (k : Int) :: (ed j).drop (i + 1) := by
              rw [List.drop_eq_getElem_cons hiE]
              congr 1
              rw [← hk]
              unfold hAt
              simp [List.getD, hiE]
            have hai := HAi.out
            rw [hdr, addE, Int.toNat_natCast] at hai
            have HA2 := hide_ hai
            have hkv : k < vs'.length := by rw [HKi.out.len, HUi.out]; exact hkn
            obtain ⟨u, hu⟩ : ∃ u, vs'[k]? = some u := ⟨_, List.getElem?_eq_getElem hkv⟩
            have cu := (HKi.out.blk.cell k).trans hu
            obtain ⟨g5, L5, c5, w5, hr5, fz5, cl5, hK5, hU5, hg5⟩ := HKi.out.push hu (j : Int) (by have := HLi.out k; omega) HBi.out.size
            have HRun := hide_ hr5
            have HK5 := hide_ hK5
            have hO5 := HOi.out.upd hU5 (fun q e e2 => by
              rcases e2 with e2 | e2
              · exact HSi.out k u q hu e2 e
              · exact HOi.out.neB HKi.out.blk (by decide) (e2 ▸ e))
            have HO5 := hide_ hO5
            have HS5 : Hid (∀ (i : Nat) (t : Value) (q : Nat), (vs'.set k (.slice (some ⟨g5, 0, none⟩) L5 c5))[i]? = some t → t.ownBlock = some q → (Value.slice (some ⟨g, 0, none⟩) m c).ownBlock ≠ some q) := hide_ (fun i2 t q ht e e2 => by
              by_cases hik : i2 = k
              · subst hik
                rw [List.getElem?_set_self hkv] at ht
                injection ht with ht
                subst ht
                rcases hg5 q e with h6 | h6
                · exact HSi.out i2 u q hu h6 e2
                · have := (HOi.out.lies e2).2
                  omega
              · rw [List.getElem?_set_ne (by omega)] at ht
                exact HSi.out i2 t q ht e e2)
            have HB5 : Hid (Below w.heap.size w (w5.setCell ⟨w.heap.size, k, none⟩ (.slice (some ⟨g5, 0, none⟩) L5 c5))) := hide_ (below_to2 HBi.out hU5 (fun q e => by
              rcases e with e | e
              · exact ((HKi.out.own k u hu).lies e).1
              · rw [e]; exact Nat.le_refl _))
            have HL5 := hide_ (fun q => uA_len HLi.out k (j : Int) q)
            have HU5 : Hid ((U'.set k (uA U' k ++ [(j : Int)])).length = n) := hide_ (by rw [List.length_set]; exact HUi.out)
            clear hai hdr hr5 hK5 hU5 hg5 hO5 hu hk hy hkv HAi HKi HUi HLi HOi HSi HBi
            go_wp2_with (first | (at_builtin; refine wpList_append_run rfl (.tmp 40) (.tmp 42) 23 23 rfl rfl rfl HRun.out ?_; clear HRun) | fail)
            go_roundw
            case rel => exact ⟨i + 1, _, _, by omega, by go_num, HA2, HK5, HU5, hide_ (fun q => by have := HL5.out q; omega), HO5, HS5, HB5⟩
            case measure => simp [intOf]; omega
          · have hlt2' : ¬ ((i : Int) < (m : Int)) := by omega
            have HE2 : Hid (U' = U2) := hide_ (by
              have h1 := HAi.out
              rw [List.drop_of_length_le (by rw [Hm.out]; omega), addE] at h1
              exact h1)
            have HR4 : Hid (revF ed S (n - (j + 1)) (j + 1) U' = R) := hide_ (by rw [HE2.out]; exact HR3.out)
            have HL4 : Hid (∀ q, (uA U' q).length ≤ 65 * (j + 1)) := hide_ (fun q => by have := HLi.out q; omega)
            clear HAi HE2 HOi HSi
            go_wp2_with fail
            go_roundw
            case rel => exact ⟨j + 1, U', vs', by omega, by go_num, HR4, HKi, HUi, HL4, HBi⟩
            case measure => simp [intOf]; omega
    · have hlt' : ¬ ((j : Int) < (n : Int)) := by omega
      have HX : Hid (RvTo w n R (.returned (.slice (some ⟨w.heap.size, 0, none⟩) n n)) wq) := hide_ (by
        have h1 := HRj.out
        rw [show n - j = 0 by omega, revF] at h1
        rw [← h1]
        exact ⟨_, vs, rfl, Nat.le_refl _, HKj.out, HUl.out, HBj.out⟩)
      go_wp2_with fail
      go_ret
      exact HX.out
set_option maxRecDepth 100000 in
set_option maxHeartbeats 8000000 in
theorem quietBy_any (b cc ce gs gq : Nat) (ac ae : Option Addr) (enc : Bool) (C : List In) (E : List Int) (S : List St) (Q : List Bool) (vb : Value) (k : Nat) (w : World) (hk : k < C.length) (hcc : C.length ≤ cc) (hcl : cc ≤ 9223372036854775807) (hC : Hid (CeOk enc C E)) (h : Hid (PtS w b cc ce gs gq ac ae enc C E S Q vb)) :
    Calls Tryz.prog 54 #[.pointer (some ⟨b, 0, none⟩), .int .i64 (k : Int)] w fun e w' => ∃ v, e = .returned v ∧ Hid (IOwn w' w.heap.size v (qbyP C E k)) ∧ Hid (Below w.heap.size w w') := by
  obtain ⟨bc, oc, hac⟩ := h.out.adr hk
  subst hac
  obtain ⟨x, hx⟩ : ∃ x, C[k]? = some x := ⟨_, List.getElem?_eq_getElem hk⟩
  have hxA : inA C k = x := inA_at hx
  obtain ⟨w2, hw2⟩ : ∃ wx, w.alloc (.cells #[.int .i64 x.op, .int .i64 x.a, .int .i64 x.b, .int .i64 x.c] 37) = wx := ⟨_, rfl⟩
  have hB2 : Below w.heap.size w w2 := by rw [← hw2]; exact below1 _ _
  have KX : Blk w2 w.heap.size 37 (inc x) := by rw [← hw2]; exact Blk.newA w _ _
  have hzw : w.heap.size ≤ w2.heap.size := hB2.size
  have L2 := h.out.later hB2
  obtain ⟨-, c1, -, -, -, -⟩ := h.out.cells
  obtain ⟨j0, j1, j2, j3⟩ := h.out.code.at hx
  obtain ⟨i0, i1, i2, i3⟩ := KX.ci
  have hkc : (k : Int) < (C.length : Int) := by omega
  have HB2 := hide_ hB2
  have hwl := ways_len hC.out.cd hk
  have HWy := hide_ (fun w3 (hB : Below w2.heap.size w2 w3) => pways_any b cc ce gs gq _ ae enc C E S Q vb k w3 hk hcc hcl (hide_ hC.out.cd) (hide_ (L2.later hB)))
  by_cases ho : x.op = 16
  · have hcal := hC.out.cal k hk (by rw [hxA]; exact ho)
    rw [hxA] at hcal
    obtain ⟨m, hm⟩ := Int.eq_ofNat_of_zero_le hcal.1
    have hmE : m < E.length := by omega
    have hent := hC.out.ent m hmE
    obtain ⟨q, hq⟩ := Int.eq_ofNat_of_zero_le hent.1
    obtain ⟨be, oe, hae, hbe, hce⟩ := L2.ent.open (by omega)
    have eq := hce m hmE
    rw [hq] at eq
    have hmEi : (m : Int) < (E.length : Int) := by omega
    have HW : Hid (qbyP C E k = waysP C k ++ [(q : Int)]) := hide_ (by unfold qbyP enA; rw [hxA, if_pos ho, hm, Int.toNat_natCast, hq])
    have HS1 : Hid (∀ w3, Below w2.heap.size w2 w3 → (fun w' => w'.cell? ⟨b, 2, none⟩ = some (.slice (some ⟨be, oe, none⟩) E.length ce) ∧ w'.cell? ⟨w.heap.size, 3, none⟩ = some (.int .i64 (m : Int)) ∧ w'.cell? ⟨be, oe + m, none⟩ = some (.int .i64 (q : Int))) w3) := hide_ (fun w3 hB => by
      have a1 := (L2.later hB).cells.2.2.1
      have a2 := (KX.later hB).ci
      rw [hae] at a1
      rw [hm] at a2
      exact ⟨a1, a2.2.2.2, (hB.cell (p := ⟨be, oe + m, none⟩) hbe).trans eq⟩)
    have Ho := hide_ ho
    clear hq hent hcal hae hbe hce ho hm hB2 KX L2 hx hxA h eq
    go_enter Tryz.func54, Tryz.ntmps54
    go_upto_region 2 with fail
    try rw [hw2]
    clear hw2 c1 j0 j1 j2 j3
    rw [Ho.out] at i0
    go_wp2_with fail
    refine wp_region_last 14 (fun w' => w'.cell? ⟨b, 2, none⟩ = some (.slice (some ⟨be, oe, none⟩) E.length ce) ∧ w'.cell? ⟨w.heap.size, 3, none⟩ = some (.int .i64 (m : Int)) ∧ w'.cell? ⟨be, oe + m, none⟩ = some (.int .i64 (q : Int))) (by kernel_rfl) (HS1.out _ (Below.refl _ _).drew) (fun hHeld => ?_)
    obtain ⟨wz0, hz0⟩ : ∃ wx, w2.drew = wx := ⟨_, rfl⟩
    rw [hz0] at hHeld ⊢
    have HBz0 : Hid (Below w2.heap.size w2 wz0) := hide_ (by rw [← hz0]; exact (Below.refl _ _).drew)
    clear hz0
    refine wpAnyF_take [14] (by kernel_rfl) (i := 0) (v := ?vp1) rfl (by kernel_rfl) (by kernel_rfl) (by kernel_rfl) (fun _ _ _ h => h) (Or.inl ⟨by kernel_rfl, ?hyp1⟩) hHeld ?restp1
    case hyp1 => intro w' hSw; (try dsimp only at hSw); go_simp; try with_reducible rfl
    simp only [Act.put]
    try dsimp only
    refine wpAnyF_take [14] (by kernel_rfl) (i := 1) (v := ?vp2) rfl (by kernel_rfl) (by kernel_rfl) (by kernel_rfl) (fun _ _ _ h => h) (Or.inl ⟨by kernel_rfl, ?hyp2⟩) hHeld ?restp2
    case hyp2 => intro w' hSw; (try dsimp only at hSw); go_simp; try with_reducible rfl
    simp only [Act.put]
    try dsimp only
    refine wpAnyF_take [14] (by kernel_rfl) (i := 3) (v := ?vp3) rfl (by kernel_rfl) (by kernel_rfl) (by kernel_rfl) (fun _ _ _ h => h) (Or.inl ⟨by kernel_rfl, ?hyp3⟩) hHeld ?restp3
    case hyp3 => intro w' hSw; (try dsimp only at hSw); go_simp; try with_reducible rfl
    simp only [Act.put]
    try dsimp only
    refine wpAnyF_take [14] (by kernel_rfl) (i := 4) (v := ?vp4) rfl (by kernel_rfl) (by kernel_rfl) (by kernel_rfl) (fun _ _ _ h => h) (Or.inl ⟨by kernel_rfl, ?hyp4⟩) hHeld ?restp4
    case hyp4 => intro w' hSw; (try dsimp only at hSw); go_simp; try with_reducible rfl
    simp only [Act.put]
    try dsimp only
    refine wpAnyF_take [14] (by kernel_rfl) (i := 5) (v := ?vp5) rfl (by kernel_rfl) (by kernel_rfl) (by kernel_rfl) (fun _ _ _ h => h) (Or.inl ⟨by kernel_rfl, ?hyp5⟩) hHeld ?restp5
    case hyp5 => intro w' hSw; (try dsimp only at hSw); go_simp; try with_reducible rfl
    simp only [Act.put]
    try dsimp only
    refine wpAnyF_take [14] (by kernel_rfl) (i := 6) (v := ?vp6) rfl (by kernel_rfl) (by kernel_rfl) (by kernel_rfl) (fun _ _ _ h => h) (Or.inl ⟨by kernel_rfl, ?hyp6⟩) hHeld ?restp6
    case hyp6 => intro w' hSw; (try dsimp only at hSw); go_simp; try with_reducible rfl
    simp only [Act.put]
    try dsimp only
    refine wpAnyF_take [14] (by kernel_rfl) (i := 7) (v := ?vp7) rfl (by kernel_rfl) (by kernel_rfl) (by kernel_rfl) (fun _ _ _ h => h) (Or.inl ⟨by kernel_rfl, ?hyp7⟩) hHeld ?restp7
    case hyp7 => intro w' hSw; (try dsimp only at hSw); go_simp; try with_reducible rfl
    simp only [Act.put]
    try dsimp only
    refine wpAnyF_take [14] (by kernel_rfl) (i := 8) (v := ?vp8) rfl (by kernel_rfl) (by kernel_rfl) (by kernel_rfl) (fun _ _ _ h => h) (Or.inl ⟨by kernel_rfl, ?hyp8⟩) hHeld ?restp8
    case hyp8 => intro w' hSw; (try dsimp only at hSw); go_simp; try with_reducible rfl
    simp only [Act.put]
    try dsimp only
    refine wpAnyF_take [14] (by kernel_rfl) (i := 9) (v := ?vp9) rfl (by kernel_rfl) (by kernel_rfl) (by kernel_rfl) (fun _ _ _ h => h) (Or.inl ⟨by kernel_rfl, ?hyp9⟩) hHeld ?restp9
    case hyp9 => intro w' hSw; (try dsimp only at hSw); go_simp; try with_reducible rfl
    simp only [Act.put]
    try dsimp only
    refine wpAnyF_take [14] (by kernel_rfl) (i := 10) (v := ?vp10) rfl (by kernel_rfl) (by kernel_rfl) (by kernel_rfl) (fun _ _ _ h => h) (Or.inl ⟨by kernel_rfl, ?hyp10⟩) hHeld ?restp10
    case hyp10 => intro w' hSw; (try dsimp only at hSw); go_simp; try with_reducible rfl
    simp only [Act.put]
    try dsimp only
    refine wpAnyF_take [14] (by kernel_rfl) (i := 11) (v := ?vp11) rfl (by kernel_rfl) (by kernel_rfl) (by kernel_rfl) (fun _ _ _ h => h) (Or.inl ⟨by kernel_rfl, ?hyp11⟩) hHeld ?restp11
    case hyp11 => intro w' hSw; (try dsimp only at hSw); go_simp; try with_reducible rfl
    simp only [Act.put]
    try dsimp only
    refine wpAnyF_ready (rs := [2, 12]) (by kernel_rfl) (by simp) ?_
    refine AllReadyF.cons rfl (fun K hK => ?_) ?_
    · go_simp
      refine (HWy.out wz0 HBz0.out).mono ?_
      rintro e wz1 ⟨v, rfl, HO0, HBn⟩
      have hbz := HBn.out
      have HO_1 : Hid (IOwn wz1 w.heap.size v (waysP C k)) := hide_ (own_base HO0.out (Nat.le_trans hzw HBz0.out.size))
      have HLv_1 : Hid (∀ q, v.ownBlock = some q → w2.heap.size ≤ q) := hide_ (fun q e => Nat.le_trans HBz0.out.size (HO0.out.lies e).1)
      have HBz1 := hide_ (below_to HBz0.out hbz)
      have hSz1 := HS1.out wz1 HBz1.out
      clear hbz HBn HO0
      go_simp
      refine hK.out _ _ (hSz1) (fun hHeld => ?_)
      clear hK K
      refine wpAnyF_ready (rs := [12]) (by kernel_rfl) (by simp) ?_
      refine AllReadyF.cons rfl (fun K hK => ?_) AllReadyF.nil
      go_simp
      obtain ⟨wz2, hz⟩ : ∃ wx, wz1.alloc (.cells #[.int .i64 (q : Int)] 3) = wx := ⟨_, rfl⟩
      obtain ⟨gq2, ha⟩ : ∃ a, wz1.heap.size = a := ⟨_, rfl⟩
      have hbz : Below wz1.heap.size wz1 wz2 := by rw [← hz]; exact below1 _ _
      have KQ_2 : Hid (Blk wz2 gq2 3 (cellsL .i64 [(q : Int)])) := hide_ (by rw [← hz, ← ha]; exact Blk.newA _ _ _)
      have HBz2 := hide_ (below_to HBz1.out hbz)
      have HLv_2 := HLv_1
      have HO_2 : Hid (IOwn wz2 w.heap.size v (waysP C k)) := hide_ (HO_1.out.later hbz)
      have hSz2 := HS1.out wz2 HBz2.out
      rw [hz, ha]
      clear hbz hz ha
      refine hK.out _ _ (hSz2) (fun hHeld => ?_)
      clear hK K
      refine wpAnyF_ready (rs := [13]) (by kernel_rfl) (by simp) ?_
      refine AllReadyF.cons rfl (fun K hK => ?_) AllReadyF.nil
      obtain ⟨v5, w5, hr5, hW5, hU5, -⟩ := HO_2.out.app (r := [(q : Int)]) (cap := 1) (KQ_2.out.row) (fun e => by cases e) (by simp; omega) (Nat.le_trans hzw HBz2.out.size)
      have HRun := hide_ hr5
      have HW5 := hide_ hW5
      have HB5 : Hid (Below w.heap.size w w5) := hide_ (below_to2 (below_to HB2.out HBz2.out) hU5 (fun q e => (HO_2.out.lies e).1))
      have hS5 := HS1.out w5 (below_to2 HBz2.out hU5 (fun q e => HLv_2.out q e))
      refine step_append_run rfl (.tmp 19) (.tmp 29) 23 23 rfl (v := v) (u := .slice (some ⟨gq2, 0, none⟩) 1 1) (by kernel_rfl) (by kernel_rfl) HRun.out ?_
      simp only [Act.put]
      refine hK.out _ _ (hS5) (fun hHeld => ?_)
      clear hK K
      refine wpAnyF_ready (rs := [14]) (by kernel_rfl) (by simp) ?_
      refine AllReadyF.last rfl (fun K hK => ?_)
      go_simp
      refine hK.out _ _ ?_
      clear hK K
      refine wpAnyF_done (by kernel_rfl) ?_ _
      go_wp2_with fail
      go_ret
      exact ⟨v5, rfl, hide_ (by rw [HW.out]; exact HW5.out), HB5⟩
    refine AllReadyF.cons rfl (fun K hK => ?_) AllReadyF.nil
    go_simp
    obtain ⟨wz1, hz⟩ : ∃ wx, wz0.alloc (.cells #[.int .i64 (q : Int)] 3) = wx := ⟨_, rfl⟩
    obtain ⟨gq2, ha⟩ : ∃ a, wz0.heap.size = a := ⟨_, rfl⟩
    have hbz : Below wz0.heap.size wz0 wz1 := by rw [← hz]; exact below1 _ _
    have KQ_1 : Hid (Blk wz1 gq2 3 (cellsL .i64 [(q : Int)])) := hide_ (by rw [← hz, ← ha]; exact Blk.newA _ _ _)
    have HBz1 := hide_ (below_to HBz0.out hbz)
    have hSz1 := HS1.out wz1 HBz1.out
    rw [hz, ha]
    clear hbz hz ha
    refine hK.out _ _ (hSz1) (fun hHeld => ?_)
    clear hK K
    refine wpAnyF_ready (rs := [2]) (by kernel_rfl) (by simp) ?_
    refine AllReadyF.cons rfl (fun K hK => ?_) AllReadyF.nil
    go_simp
    refine (HWy.out wz1 HBz1.out).mono ?_
    rintro e wz2 ⟨v, rfl, HO0, HBn⟩
    have hbz := HBn.out
    have HO_2 : Hid (IOwn wz2 w.heap.size v (waysP C k)) := hide_ (own_base HO0.out (Nat.le_trans hzw HBz1.out.size))
    have HLv_2 : Hid (∀ q, v.ownBlock = some q → w2.heap.size ≤ q) := hide_ (fun q e => Nat.le_trans HBz1.out.size (HO0.out.lies e).1)
    have HBz2 := hide_ (below_to HBz1.out hbz)
    have KQ_2 := hide_ (KQ_1.out.later hbz)
    have hSz2 := HS1.out wz2 HBz2.out
    clear hbz HBn HO0
    go_simp
    refine hK.out _ _ (hSz2) (fun hHeld => ?_)
    clear hK K
    refine wpAnyF_ready (rs := [13]) (by kernel_rfl) (by simp) ?_
    refine AllReadyF.cons rfl (fun K hK => ?_) AllReadyF.nil
    obtain ⟨v5, w5, hr5, hW5, hU5, -⟩ := HO_2.out.app (r := [(q : Int)]) (cap := 1) (KQ_2.out.row) (fun e => by cases e) (by simp; omega) (Nat.le_trans hzw HBz2.out.size)
    have HRun := hide_ hr5
    have HW5 := hide_ hW5
    have HB5 : Hid (Below w.heap.size w w5) := hide_ (below_to2 (below_to HB2.out HBz2.out) hU5 (fun q e => (HO_2.out.lies e).1))
    have hS5 := HS1.out w5 (below_to2 HBz2.out hU5 (fun q e => HLv_2.out q e))
    refine step_append_run rfl (.tmp 19) (.tmp 29) 23 23 rfl (v := v) (u := .slice (some ⟨gq2, 0, none⟩) 1 1) (by kernel_rfl) (by kernel_rfl) HRun.out ?_
    simp only [Act.put]
    refine hK.out _ _ (hS5) (fun hHeld => ?_)
    clear hK K
    refine wpAnyF_ready (rs := [14]) (by kernel_rfl) (by simp) ?_
    refine AllReadyF.last rfl (fun K hK => ?_)
    go_simp
    refine hK.out _ _ ?_
    clear hK K
    refine wpAnyF_done (by kernel_rfl) ?_ _
    go_wp2_with fail
    go_ret
    exact ⟨v5, rfl, hide_ (by rw [HW.out]; exact HW5.out), HB5⟩
  · have f0 : (x.op == 16) = false := by simpa using ho
    have HW : Hid (qbyP C E k = waysP C k) := hide_ (by unfold qbyP; rw [hxA, if_neg ho])
    clear ho hB2 KX L2 hx hxA h
    go_enter Tryz.func54, Tryz.ntmps54
    go_upto_region 2 with fail
    try rw [hw2]
    clear hw2 c1 j0 j1 j2 j3
    go_wp2_with fail
    refine (HWy.out w2 (Below.refl _ _)).mono ?_
    rintro e w4 ⟨v, rfl, HO, HB4⟩
    go_wp2_with fail
    go_ret
    exact ⟨v, rfl, hide_ (by rw [HW.out]; exact own_base HO.out hzw), hide_ (below_to HB2.out HB4.out)⟩
set_option maxRecDepth 100000 in
set_option maxHeartbeats 4000000 in
theorem bareBack_any (b cc ce gs gq gb B n : Nat) (ac ae : Option Addr) (enc : Bool) (C : List In) (E : List Int) (S : List St) (Q : List Bool) (vs : List Value) (U : List (List Int)) (k : Nat) (w : World) (hk : k < n) (hn : U.length = n) (hK : Hid (BkR w B gb vs U)) (h : Hid (PtS w b cc ce gs gq ac ae enc C E S Q (.slice (some ⟨gb, 0, none⟩) n n))) :
    Calls Tryz.prog 59 #[.pointer (some ⟨b, 0, none⟩), .int .i64 (k : Int)] w fun e w' => (∃ a c, e = .returned (.slice a (uA U k).length c) ∧ Hid (a = none → c = 0) ∧ Hid (Row .i64 w' a (uA U k))) ∧ w = w' := by
  obtain ⟨c0, c1, c2, c3, c4, c5⟩ := h.out.cells
  have hkv : k < vs.length := by rw [hK.out.len]; omega
  obtain ⟨v, hv⟩ : ∃ v, vs[k]? = some v := ⟨_, List.getElem?_eq_getElem hkv⟩
  have cv := (hK.out.blk.cell k).trans hv
  obtain ⟨a, c, e, hr, hnil, -⟩ := (hK.out.own k v hv).row
  subst e
  have Hr := hide_ hr
  have Hnil := hide_ hnil
  have hkn : (k : Int) < (n : Int) := by omega
  clear hr hnil hv hkv
  go_enter Tryz.func59, Tryz.ntmps59
  go_wp2_with fail
  go_ret
  exact ⟨⟨a, c, rfl, Hnil, Hr⟩, rfl⟩
def sumU : List (List Int) → Nat
  | [] => 0
  | l :: U => l.length + sumU U
theorem sum_set : ∀ (U : List (List Int)) (k : Nat) (x : Int), k < U.length → sumU (U.set k (uA U k ++ [x])) = sumU U + 1
  | [], k, x, h => by simp at h
  | l :: U, 0, x, h => by simp [sumU, uA]; omega
  | l :: U, k + 1, x, h => by
    have ih := sum_set U k x (by simpa using h)
    have e : uA (l :: U) (k + 1) = uA U k := by simp [uA]
    rw [e, List.set_cons_succ]
    simp only [sumU]
    omega
theorem uA_set (U : List (List Int)) (k : Nat) (l : List Int) (hk : k < U.length) (i : Nat) : uA (U.set k l) i = if i = k then l else uA U i := by
  unfold uA
  by_cases h : i = k
  · subst h; simp [List.getD, hk]
  · have : k ≠ i := fun e => h e.symm
    simp [List.getD, List.getElem?_set, this, h]
theorem addE_len (k : Nat) : ∀ (ys : List Int) (U : List (List Int)), (addE k ys U).length = U.length
  | [], U => rfl
  | y :: ys, U => by rw [addE, addE_len k ys, List.length_set]
theorem addE_sum (k : Nat) : ∀ (ys : List Int) (U : List (List Int)), Stn U.length ys → sumU (addE k ys U) = sumU U + ys.length
  | [], U, _ => rfl
  | y :: ys, U, h => by
    have h1 := h y (by simp)
    rw [addE, addE_sum k ys _ (by rw [List.length_set]; exact fun z hz => h z (by simp [hz])), sum_set U y.toNat _ (by omega), List.length_cons]
    omega
def Usr (ed : Nat → List Int) (S : List St) (n : Nat) (U : List (List Int)) : Prop := ∀ (k : Nat) (y : Int), y ∈ uA U k → ∃ j : Nat, j < n ∧ y = (j : Int) ∧ cameP S j = true ∧ (k : Int) ∈ ed j
theorem addE_usr {ed : Nat → List Int} {S : List St} {n j : Nat} (hj : j < n) (hc : cameP S j = true) : ∀ (ys : List Int) (U : List (List Int)), (∀ y ∈ ys, y ∈ ed j) → Stn U.length ys → Usr ed S n U → Usr ed S n (addE j ys U)
  | [], U, _, _, h => h
  | y :: ys, U, hy, hs, h => by
    have h1 := hs y (by simp)
    rw [addE]
    refine addE_usr hj hc ys _ (fun z hz => hy z (by simp [hz])) (by rw [List.length_set]; exact fun z hz => hs z (by simp [hz])) ?_
    intro k z hz
    rw [uA_set U y.toNat _ (by omega) k] at hz
    by_cases hk : k = y.toNat
    · rw [if_pos hk] at hz
      rcases List.mem_append.1 hz with hz | hz
      · exact h k z (hk ▸ hz)
      · rw [List.mem_singleton] at hz
        exact ⟨j, hj, hz, hc, by rw [hk, show ((y.toNat : Nat) : Int) = y by omega]; exact hy y (by simp)⟩
    · rw [if_neg hk] at hz
      exact h k z hz
theorem revF_ok {ed : Nat → List Int} {S : List St} {n : Nat} (he : ∀ k, k < n → cameP S k = true → Stn n (ed k)) (hl : ∀ k, k < n → (ed k).length ≤ 65) : ∀ (f j : Nat) (U : List (List Int)), j + f ≤ n → U.length = n → Usr ed S n U → (revF ed S f j U).length = n ∧ sumU (revF ed S f j U) ≤ sumU U + 65 * f ∧ Usr ed S n (revF ed S f j U)
  | 0, j, U, _, hU, h => ⟨hU, by simp [revF], h⟩
  | f + 1, j, U, hj, hU, h => by
    rw [revF]
    by_cases hc : cameP S j = true
    · rw [if_pos hc]
      have hs : Stn U.length (ed j) := by rw [hU]; exact he j (by omega) hc
      have h1 := addE_sum j (ed j) U hs
      have h2 := hl j (by omega)
      obtain ⟨a1, a2, a3⟩ := revF_ok he hl f (j + 1) (addE j (ed j) U) (by omega) (by rw [addE_len]; exact hU) (addE_usr (by omega) hc (ed j) U (fun y hy => hy) hs h)
      exact ⟨a1, by omega, a3⟩
    · rw [if_neg hc]
      obtain ⟨a1, a2, a3⟩ := revF_ok he hl f (j + 1) U (by omega) hU h
      exact ⟨a1, by omega, a3⟩
theorem sum_new (n : Nat) : sumU (List.replicate n []) = 0 := by
  induction n with
  | zero => rfl
  | succ n ih => rw [List.replicate_succ, sumU, ih]; rfl
theorem usr_new (ed : Nat → List Int) (S : List St) (n : Nat) : Usr ed S n (List.replicate n []) := fun k y hy => by
  have : uA (List.replicate n []) k = [] := by
    unfold uA
    by_cases hi : k < n <;> simp [List.getD, hi]
  rw [this] at hy
  cases hy
theorem sum_app : ∀ (U V : List (List Int)), sumU (U ++ V) = sumU U + sumU V
  | [], V => by simp [sumU]
  | l :: U, V => by
    have := sum_app U V
    rw [List.cons_append]
    simp only [sumU]
    omega
theorem tot_sum (U : List (List Int)) (s : List Bool) : ∀ n, n ≤ U.length → tot (uA U) s n ≤ sumU (U.take n)
  | 0, _ => Nat.zero_le _
  | n + 1, h => by
    have ih := tot_sum U s n (by omega)
    rw [List.take_succ_eq_append_getElem (by omega), sum_app]
    unfold tot
    have e : uA U n = U[n] := by unfold uA; simp [List.getD, show n < U.length by omega]
    have e2 : sumU [U[n]] = U[n].length := by simp [sumU]
    rw [e2, e]
    split <;> omega
def Lkd (C : List In) (S : List St) (P : List Int) : Prop := ∀ k, k < C.length → (stA S k).pl ≠ 0 → (k : Int) ∈ P ∨ (C.length : Int) ∉ waysP C k
theorem handP_lkd {enc : Bool} {C : List In} {r : Int} {S : List St} {P : List Int} (hN : Pnd C.length S P) (h : Lkd C S P) {k : Nat} (hk : k < C.length) (s : St) : Lkd C (handP enc C r S P k s).2.1 (handP enc C r S P k s).2.2 := by
  unfold handP
  split
  · exact h
  split
  · intro j hj hp
    show (j : Int) ∈ pushH P (k : Int) ∨ _
    rw [push_mem hN.hp]
    have hp : (stA (S.set k s) j).pl ≠ 0 := hp
    rw [stA_set (by rw [hN.len]; exact hk)] at hp
    by_cases e : j = k
    · exact .inl (.inl (by rw [e]))
    · rw [if_neg e] at hp
      rcases h j hj hp with h1 | h1
      · exact .inl (.inr h1)
      · exact .inr h1
  · exact h
theorem handsP_lkd {enc : Bool} {C : List In} {r : Int} {s : St} (hs : s.pl ≠ 0) (x : In) : ∀ (ws : List Int) (way : Nat) {S : List St} {P : List Int}, Pnd C.length S P → (∀ y ∈ ws, 0 ≤ y ∧ y < (C.length : Int)) → Lkd C S P → Lkd C (handsP enc C r s x ws way S P).2.1 (handsP enc C r s x ws way S P).2.2
  | [], _, S, P, _, _, h => h
  | n :: ws, way, S, P, hN, hw, h => by
    rw [handsP]
    have h1 := hw n (by simp)
    have hk : n.toNat < C.length := by omega
    split
    · exact handsP_lkd hs x ws (way + 1) (handP_ok (enc := enc) (r := r) hN hk (mHd_pl enc hs x _)).1 (fun y hy => hw y (by simp [hy])) (handP_lkd hN h hk _)
    · exact h
theorem pop_rest {P : List Int} (h : Hp P P.length) (h0 : 0 < P.length) {x : Int} (hx : x ∈ P) : x = (popH P).1 ∨ x ∈ (popH P).2 := by
  obtain ⟨-, -, -, -, hc⟩ := popH_ok h h0
  by_cases e : (popH P).1 = x
  · exact .inl e.symm
  · right
    have h1 := hc x
    rw [if_neg e, Nat.add_zero] at h1
    by_cases hm : x ∈ (popH P).2
    · exact hm
    · exfalso
      have h2 : Cnt (popH P).2 x = 0 := by unfold Cnt; exact List.count_eq_zero.2 hm
      have h3 : Cnt P x ≠ 0 := by unfold Cnt; exact fun e => (List.count_eq_zero.1 e) hx
      omega
theorem goP_lkd {enc : Bool} {C : List In} {r : Int} (hW : WIn C) (hn : C.length ≤ 1048576) : ∀ (f : Nat) {S : List St} {P : List Int}, Pnd C.length S P → msr S P < f → Lkd C S P → (goP enc C r f S P).1 = 1048576 → Lkd C (goP enc C r f S P).2.1 []
  | 0, S, P, _, h, _, _ => by omega
  | f + 1, S, P, hN, hm, hL, h1 => by
    by_cases h0 : P = []
    · subst h0
      rw [goP_nil]
      exact hL
    · rw [goP] at h1 ⊢
      rw [if_neg h0] at h1 ⊢
      have hl0 : 0 < P.length := List.length_pos_iff.2 h0
      obtain ⟨q1, q2, q3, q4, q5⟩ := pop_ok hN h0
      have hk : (popH P).1.toNat < C.length := by omega
      have l1 := lookP_ok (enc := enc) (r := r) hW q1 hk q5
      by_cases hz : (lookP enc C r S (popH P).2 (popH P).1.toNat).1 = 1048576
      · rw [if_pos hz] at h1 ⊢
        refine goP_lkd hW hn f l1.1 (by omega) ?_ h1
        unfold lookP at hz ⊢
        by_cases hq : mSt enc (stA S (popH P).1.toNat) (inA C (popH P).1.toNat) r = false ∨ (C.length : Int) ∈ waysP C (popH P).1.toNat
        · rw [if_pos hq] at hz
          have hz : ((popH P).1.toNat : Int) = 1048576 := hz
          omega
        · rw [if_neg hq]
          have hq2 : (C.length : Int) ∉ waysP C (popH P).1.toNat := fun e => hq (.inr e)
          refine handsP_lkd q5 _ _ _ q1 (fun y hy => ?_) (fun j hj hp => ?_)
          · have h2 := hW _ hk y hy
            have h3 : y ≠ (C.length : Int) := fun e => hq2 (e ▸ hy)
            omega
          · rcases hL j hj hp with h2 | h2
            · rcases pop_rest hN.hp hl0 h2 with h3 | h3
              · right
                rw [← h3, Int.toNat_natCast] at hq2
                exact hq2
              · exact .inl h3
            · exact .inr h2
      · rw [if_neg hz] at h1
        exact absurd h1 hz
theorem thruP_lkd {enc : Bool} {C : List In} {r : Int} (hW : WIn C) (hC : CdOk enc C) {S : List St} (hl : S.length = C.length) (hN : Pnd C.length S []) (hL : Lkd C S []) {k : Nat} (hk : k < C.length) (h : (thruP enc C r S [] k).1 = 1048576) : Lkd C (thruP enc C r S [] k).2.1 [] := by
  unfold thruP at h ⊢
  by_cases hz : (handP enc C r S [] k (mBg enc)).1 = true
  · rw [if_pos hz] at h ⊢
    have h1 := handP_ok (enc := enc) (C := C) (r := r) hN hk (mBg_pl enc)
    refine goP_lkd hW hC.nc _ h1.1 ?_ (handP_lkd hN hL hk _) h
    have h2 : msr S [] ≤ 2 * C.length := by have := bare_le S; unfold msr; simp; omega
    have h3 := h1.2.1
    omega
  · rw [if_neg hz] at h
    have := hC.nc
    simp at h
    omega
theorem firstP_lkd {enc : Bool} {C : List In} (hW : WIn C) (hC : CdOk enc C) : ∀ (E : List Int) (r : Nat) {S : List St}, (∀ e ∈ E, 0 ≤ e ∧ e < (C.length : Int)) → S.length = C.length → Pnd C.length S [] → SAll S → Lkd C S [] → (firstP enc C E r S).1 = 1048576 → Lkd C (firstP enc C E r S).2 [] ∧ SAll (firstP enc C E r S).2 ∧ (firstP enc C E r S).2.length = C.length
  | [], r, S, _, hl, _, hS, hL, _ => ⟨hL, hS, hl⟩
  | e :: es, r, S, he, hl, hN, hS, hL, h => by
    have h1 := he e (by simp)
    have hk : e.toNat < C.length := by omega
    rw [firstP] at h ⊢
    by_cases hz : (thruP enc C (r : Int) S [] e.toNat).1 = 1048576
    · rw [if_pos hz] at h ⊢
      obtain ⟨f1, f2, f3⟩ := thruP_fin hW hC hl hN hS hk hz
      exact firstP_lkd hW hC es (r + 1) (fun y hy => he y (by simp [hy])) f2.len f2 f3 (thruP_lkd hW hC hl hN hL hk hz) h
    · rw [if_neg hz] at h
      exact absurd h hz
theorem firstP_inn {enc : Bool} {C : List In} {E : List Int} (hK : Chk enc C E) (h : (firstP enc C E 0 (List.replicate C.length st0)).1 = 1048576) : ∀ k, k < C.length → cameP (firstP enc C E 0 (List.replicate C.length st0)).2 k = true → Inn C k := by
  have h0 : Lkd C (List.replicate C.length st0) [] := fun k hk hp => by
    exfalso
    apply hp
    unfold stA
    simp [List.getD, hk, st0]
  obtain ⟨h1, -, -⟩ := firstP_lkd hK.win hK.cdok E 0 (fun e he => by
    obtain ⟨i, hi, rfl⟩ := List.mem_iff_getElem.1 he
    have := hK.ent i hi
    simpa [List.getD, hi] using this) (by simp) (pnd_new _ _ (by simp)) (SAll.new _) h0 h
  intro k hk hc y hy
  have h2 : (stA (firstP enc C E 0 (List.replicate C.length st0)).2 k).pl ≠ 0 := by
    unfold cameP at hc
    simpa using hc
  rcases h1 k hk h2 with h3 | h3
  · cases h3
  · have h4 := hK.win k hk y hy
    have h5 : y ≠ (C.length : Int) := fun e => h3 (e ▸ hy)
    omega
end Go.Proofs.YtjamfbpdepahnaaGreat
