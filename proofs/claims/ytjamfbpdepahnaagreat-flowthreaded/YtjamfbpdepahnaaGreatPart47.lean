import Derived.Test.YtjamfbpdepahnaaGreatPart46
namespace Go.Proofs.YtjamfbpdepahnaaGreat
open Go.RowKit
set_option linter.unusedVariables false
set_option linter.unusedSimpArgs false
structure GI (n : Nat) (P : Nat → Prop) (G : List Bool) : Prop where
  len : G.length = n
  is : ∀ k, k < n → (qAt G k = true ↔ P k)
theorem GI.set {n : Nat} {P : Nat → Prop} {G : List Bool} (h : GI n P G) {a : Nat} (ha : a < n) : GI n (fun k => P k ∨ k = a) (G.set a true) := by
  refine ⟨by simp [h.len], fun k hk => ?_⟩
  rw [qAt_set G a (by rw [h.len]; exact ha) k]
  by_cases e : k = a
  · simp [e]
  · rw [if_neg e, h.is k hk]; simp [e]
theorem GI.congr {n : Nat} {P Q : Nat → Prop} {G : List Bool} (h : GI n P G) (hq : ∀ k, k < n → (P k ↔ Q k)) : GI n Q G := ⟨h.len, fun k hk => (h.is k hk).trans (hq k hk)⟩
theorem hAt_ex {l : List Int} {y : Int} : y ∈ l ↔ ∃ q, q < l.length ∧ hAt l q = y := by
  constructor
  · intro h
    obtain ⟨i, hi, rfl⟩ := List.mem_iff_getElem.1 h
    exact ⟨i, hi, by simp [hAt, List.getD, hi]⟩
  · rintro ⟨q, h1, rfl⟩
    exact hAt_mem h1
def PE (E : List Int) (j k : Nat) : Prop := ∃ i, i < j ∧ hAt E i = (k : Int)
def cnB (C : List In) (i k : Nat) : Prop := k ≠ i + 1 ∨ 1 < (sucP C i).length
def PR (C : List In) (E : List Int) (R : List Bool) (j k : Nat) : Prop := PE E E.length k ∨ ∃ i, i < j ∧ qAt R i = true ∧ (k : Int) ∈ sucP C i ∧ cnB C i k
def PS (C : List In) (E : List Int) (R : List Bool) (j t k : Nat) : Prop := PR C E R j k ∨ ∃ q, q < t ∧ hAt (sucP C j) q = (k : Int) ∧ cnB C j k
theorem pe_step {E : List Int} {j y k : Nat} (hy : hAt E j = (y : Int)) : (PE E j k ∨ k = y) ↔ PE E (j + 1) k := by
  constructor
  · rintro (⟨i, h1, h2⟩ | rfl)
    · exact ⟨i, by omega, h2⟩
    · exact ⟨j, by omega, hy⟩
  · rintro ⟨i, h1, h2⟩
    by_cases e : i = j
    · subst e; right; omega
    · exact .inl ⟨i, by omega, h2⟩
theorem ps_step {C : List In} {E : List Int} {R : List Bool} {j t y k : Nat} (hy : hAt (sucP C j) t = (y : Int)) (hc : cnB C j y) : (PS C E R j t k ∨ k = y) ↔ PS C E R j (t + 1) k := by
  constructor
  · rintro ((h | ⟨q, h1, h2, h3⟩) | rfl)
    · exact .inl h
    · exact .inr ⟨q, by omega, h2, h3⟩
    · exact .inr ⟨t, by omega, hy, hc⟩
  · rintro (h | ⟨q, h1, h2, h3⟩)
    · exact .inl (.inl h)
    · by_cases e : q = t
      · subst e; right; omega
      · exact .inl (.inr ⟨q, by omega, h2, h3⟩)
theorem ps_skip {C : List In} {E : List Int} {R : List Bool} {j t y k : Nat} (hy : hAt (sucP C j) t = (y : Int)) (hc : ¬ cnB C j y) : PS C E R j t k ↔ PS C E R j (t + 1) k := by
  constructor
  · rintro (h | ⟨q, h1, h2, h3⟩)
    · exact .inl h
    · exact .inr ⟨q, by omega, h2, h3⟩
  · rintro (h | ⟨q, h1, h2, h3⟩)
    · exact .inl h
    · by_cases e : q = t
      · subst e
        have : y = k := by omega
        subst this
        exact absurd h3 hc
      · exact .inr ⟨q, by omega, h2, h3⟩
theorem ps_zero {C : List In} {E : List Int} {R : List Bool} {j k : Nat} : PR C E R j k ↔ PS C E R j 0 k := ⟨.inl, fun h => h.elim id (fun ⟨q, h1, _⟩ => by omega)⟩
theorem pr_step {C : List In} {E : List Int} {R : List Bool} {j k : Nat} (hr : qAt R j = true) : PS C E R j (sucP C j).length k ↔ PR C E R (j + 1) k := by
  constructor
  · rintro ((h | ⟨i, h1, h2⟩) | ⟨q, h1, h2, h3⟩)
    · exact .inl h
    · exact .inr ⟨i, by omega, h2⟩
    · exact .inr ⟨j, by omega, hr, hAt_ex.2 ⟨q, h1, h2⟩, h3⟩
  · rintro (h | ⟨i, h1, h2, h3, h4⟩)
    · exact .inl (.inl h)
    · by_cases e : i = j
      · subst e
        obtain ⟨q, q1, q2⟩ := hAt_ex.1 h3
        exact .inr ⟨q, q1, q2, h4⟩
      · exact .inl (.inr ⟨i, by omega, h2, h3, h4⟩)
theorem pr_skip {C : List In} {E : List Int} {R : List Bool} {j k : Nat} (hr : qAt R j = false) : PR C E R j k ↔ PR C E R (j + 1) k := by
  constructor
  · rintro (h | ⟨i, h1, h2⟩)
    · exact .inl h
    · exact .inr ⟨i, by omega, h2⟩
  · rintro (h | ⟨i, h1, h2, h3⟩)
    · exact .inl h
    · by_cases e : i = j
      · subst e; rw [hr] at h2; cases h2
      · exact .inr ⟨i, by omega, h2, h3⟩
theorem GI.bg {C : List In} {E : List Int} {R G : List Bool} (h : GI C.length (PR C E R C.length) G) : BgOk C E R G := by
  refine ⟨h.len, fun k hk => (h.is k hk).trans ?_⟩
  unfold PR PE cnB
  rw [← hAt_ex]
def BnTo (w : World) (n : Nat) (C : List In) (E : List Int) (e : Ending) (w' : World) : Prop := ∃ (R G : List Bool) (g : Nat), e = .returned (.slice (some ⟨g, 0, none⟩) n n) ∧ ReOk C E R ∧ BgOk C E R G ∧ Blk w' g 4 (G.map Value.bool) ∧ Below w.heap.size w w'
set_option maxRecDepth 100000 in
set_option maxHeartbeats 16000000 in
theorem begin_any (enc : Bool) (ac ae : Option Addr) (cc ce n : Nat) (C : List In) (E : List Int) (w : World) (hn : C.length = n) (hK : Hid (Chk enc C E)) (hC : Hid (IRow w ac C)) (hE : Hid (Row .i64 w ae E)) :
    Calls Tryz.prog 22 #[.agg #[.bool enc, .slice ac n cc, .slice ae E.length ce]] w fun e w' => BnTo w n C E e w' := by
  have hnb : n ≤ 1048576 := by rw [← hn]; exact hK.out.nc
  have heb : E.length ≤ 1048576 := hK.out.ne
  obtain ⟨w1, hw1⟩ : ∃ wx, w.alloc (.cells #[.bool enc, .slice ac n cc, .slice ae E.length ce] 25) = wx := ⟨_, rfl⟩
  have HB1 : Hid (Below w.heap.size w w1) := hide_ (by rw [← hw1]; exact below1 _ _)
  have HP1 : Hid (Blk w1 w.heap.size 25 [.bool enc, .slice ac n cc, .slice ae E.length ce]) := hide_ (by rw [← hw1]; exact Blk.newA w _ _)
  obtain ⟨gb, hgb⟩ : ∃ gb, w1.heap.size = gb := ⟨_, rfl⟩
  obtain ⟨w2, hmk, hK2, hB2⟩ : ∃ w2, (Instr.makeSlice 43 (.int .i64 (n : Int)) (.int .i64 (n : Int))).run Tryz.prog w1 = .ok (.slice (some ⟨w1.heap.size, 0, none⟩) n n) w2 ∧ Blk w2 w1.heap.size 4 ((List.replicate n false).map Value.bool) ∧ Below w1.heap.size w1 w2 := ⟨_, makeBo n (by omega) w1, newBo w1 n, below1 _ _⟩
  rw [hgb] at hmk hK2
  have HP2 := hide_ (HP1.out.later hB2)
  have HB2 := hide_ (below_to HB1.out hB2)
  have HK2 := hide_ hK2
  have Hgb : Hid (w.heap.size < gb) := hide_ (by rw [← hgb]; exact HP1.out.lt)
  have p0 := HP1.out.cell 0; have p1 := HP1.out.cell 1; have p2 := HP1.out.cell 2
  have q1 := HP2.out.cell 1; have q2 := HP2.out.cell 2
  simp at p0 p1 p2 q1 q2
  have HSu : Hid (∀ (k : Nat) (w3 : World), k < n → Below w.heap.size w w3 → Calls Tryz.prog 20 #[.slice ac n cc, .int .i64 (k : Int)] w3 fun e w' => ∃ v, e = .returned v ∧ Hid (IOwn w' w3.heap.size v (sucP C k)) ∧ Hid (Below w3.heap.size w3 w')) := hide_ (fun k w3 hk hB => by
    have := suc_any enc ac cc C E k w3 (by omega) hK (hide_ (hC.out.later hB))
    rw [hn] at this
    exact this)
  have HRe : Hid (∀ w3 : World, Below w.heap.size w w3 → Calls Tryz.prog 21 #[.agg #[.bool enc, .slice ac n cc, .slice ae E.length ce]] w3 fun e w' => ReTo w3 n C E e w') := hide_ (fun w3 hB => by
    have := reached_any enc ac ae cc ce C E w3 hK (hide_ (hC.out.later hB)) (hide_ (hE.out.later hB))
    rw [hn] at this
    exact this)
  have HEr : Hid (∀ w3 : World, Below w.heap.size w w3 → Row .i64 w3 ae E) := hide_ (fun w3 hB => hE.out.later hB)
  have Hn := hide_ hn
  have HG0 : Hid (GI n (PE E 0) (List.replicate n false)) := hide_ ⟨by simp, fun k hk => by rw [qAt_new]; exact ⟨fun h => (by cases h), fun ⟨i, hi, _⟩ => (by omega)⟩⟩
  clear hn hB2 hK2 hgb hC hE HB1 HP1
  go_enter Tryz.func22, Tryz.ntmps22
  go_upto_region 1 with fail
  try rw [hw1]
  clear hw1
  go_wp2_with fail
  clear p0 p1 p2 q1 q2 hmk
  go_loopw [18] (fun x18 wr => ∃ (j : Nat) (G : List Bool), j ≤ E.length ∧ x18 = .int .i64 (j : Int) ∧ Hid (GI n (PE E j) G) ∧ Hid (Blk wr gb 4 (G.map Value.bool)) ∧ Hid (Blk wr w.heap.size 25 [.bool enc, .slice ac n cc, .slice ae E.length ce]) ∧ Hid (Below w.heap.size w wr)) (fun x18 _ => E.length - (intOf x18).toNat)
  case atStart => exact ⟨0, _, by omega, rfl, HG0, HK2, HP2, HB2⟩
  case round =>
    clear HG0 HK2 HP2 HB2
    obtain ⟨j, G, hj, rfl, HGj, HKj, HPj, HBj⟩ := hrel
    generalize wr = wq at *
    by_cases hlt : j < E.length
    · have hlt' : (j : Int) < (E.length : Int) := by omega
      have hent := hK.out.ent j hlt
      obtain ⟨y, hy⟩ := Int.eq_ofNat_of_zero_le hent.1
      have hyn : y < n := by rw [← Hn.out]; omega
      have hynI : (y : Int) < (n : Int) := by omega
      obtain ⟨be, oe, hae, -, hce⟩ := (HEr.out wq HBj.out).open (by omega)
      subst hae
      have cy := hce j hlt
      rw [hy] at cy
      have zc := bAt HKj.out (k := y) (by rw [HGj.out.len]; exact hyn)
      have zf := HKj.out.frozen y
      obtain ⟨w3, hw3⟩ : ∃ wx, wq.setCell ⟨gb, y, none⟩ (.bool true) = wx := ⟨_, rfl⟩
      have hU3 : Upd (fun q => q = gb) wq w3 := by rw [← hw3]; exact (Upd.refl _ wq).set _ _ (.inl rfl)
      have HK3 : Hid (Blk w3 gb 4 ((G.set y true).map Value.bool)) := hide_ (by rw [← hw3]; exact bset HKj.out)
      have HP3 := hide_ (HPj.out.upd hU3 (fun e => by have := Hgb.out; omega))
      have HB3 := hide_ (below_to2 HBj.out hU3 (fun q e => by have := Hgb.out; omega))
      have HG3 : Hid (GI n (PE E (j + 1)) (G.set y true)) := hide_ ((HGj.out.set hyn).congr (fun k _ => pe_step (by unfold hAt; exact hy)))
      clear hent hy hce hU3 HGj HKj HPj HBj hyn
      go_wp2_with fail
      try rw [hw3]
      go_roundw
      case rel => exact ⟨j + 1, G.set y true, by omega, by go_num, HG3, HK3, HP3, HB3⟩
      case measure => simp [intOf]; omega
    · have ej : j = E.length := by omega
      subst ej
      have HRj := hide_ (HRe.out wq HBj.out)
      have q0 := HPj.out.cell 0; have q1 := HPj.out.cell 1; have q2 := HPj.out.cell 2
      simp at q0 q1 q2
      clear hlt
      go_wp2_with fail
      refine HRj.out.mono ?_
      rintro e w4 hT
      obtain ⟨R, gr, rfl, hR, hK4, hgr, hB4⟩ := hT
      have HR := hide_ hR
      have HKr4 := hide_ hK4
      have HKg4 := hide_ (HKj.out.later hB4)
      have HP4 := hide_ (HPj.out.later hB4)
      have HB4 := hide_ (below_to HBj.out hB4)
      have Hne : Hid (gr ≠ gb) := hide_ (fun e => by have := HKj.out.lt; omega)
      have HG4 : Hid (GI n (PR C E R 0) G) := hide_ (HGj.out.congr (fun k _ => ⟨.inl, fun h => h.elim id (fun ⟨i, hi, _⟩ => by omega)⟩))
      clear hR hK4 hgr hB4 HRj q0 q1 q2 HKj HPj HBj HGj HRe
      go_wp2_with fail
      go_loopw [29] (fun x29 wr => ∃ (i : Nat) (G : List Bool), i ≤ n ∧ x29 = .int .i64 (i : Int) ∧ Hid (GI n (PR C E R i) G) ∧ Hid (Blk wr gb 4 (G.map Value.bool)) ∧ Hid (Blk wr gr 4 (R.map Value.bool)) ∧ Hid (Blk wr w.heap.size 25 [.bool enc, .slice ac n cc, .slice ae E.length ce]) ∧ Hid (Below w.heap.size w wr)) (fun x29 _ => n - (intOf x29).toNat)
      case atStart => exact ⟨0, G, by omega, rfl, HG4, HKg4, HKr4, HP4, HB4⟩
      case round =>
        clear HG4 HKg4 HKr4 HP4 HB4
        obtain ⟨i, G, hi, rfl, HGi, HKi, HRi, HPi, HBi⟩ := hrel
        generalize wr = wp at *
        by_cases hlt : i < n
        · have hlt' : (i : Int) < (n : Int) := by omega
          have cr := bAt HRi.out (k := i) (by rw [HR.out.len, Hn.out]; exact hlt)
          obtain ⟨d, hd⟩ : ∃ d, qAt R i = d := ⟨_, rfl⟩
          rw [hd] at cr
          have Hd := hide_ hd
          clear hd
          cases d
          · have HG5 : Hid (GI n (PR C E R (i + 1)) G) := hide_ (HGi.out.congr (fun k _ => pr_skip Hd.out))
            go_wp2_with fail
            go_roundw
            case rel => exact ⟨i + 1, G, by omega, by go_num, HG5, HKi, HRi, HPi, HBi⟩
            case measure => simp [intOf]; omega
          · have HSi := hide_ (HSu.out i wp hlt HBi.out)
            have q1 := HPi.out.cell 1
            simp at q1
            go_wp2_with fail
            refine HSi.out.mono ?_
            rintro e w5 ⟨v, rfl, HO5, HB5⟩
            obtain ⟨av, cv, hv, hrow, -, -⟩ := HO5.out.row
            subst hv
            have HS5 := hide_ hrow
            obtain ⟨nl, hnl⟩ : ∃ nl, (sucP C i).length = nl := ⟨_, rfl⟩
            have Hnl := hide_ hnl
            have hnlb : nl ≤ 65 := by rw [← hnl]; exact suc_le hK.out (by rw [Hn.out]; exact hlt)
            rw [hnl]
            have HSt : Hid (∀ q, q < nl → ∃ y : Nat, hAt (sucP C i) q = (y : Int) ∧ y < n) := hide_ (fun q hq => by
              have h1 := suc_stn hK.out (k := i) (by rw [Hn.out]; exact hlt) _ (hAt_mem (l := sucP C i) (i := q) (by omega))
              obtain ⟨y, hy⟩ := Int.eq_ofNat_of_zero_le h1.1
              exact ⟨y, hy, by rw [← Hn.out]; omega⟩)
            have HKg5 := hide_ (HKi.out.later HB5.out)
            have HKr5 := hide_ (HRi.out.later HB5.out)
            have HP5 := hide_ (HPi.out.later HB5.out)
            have HBw5 := hide_ (below_to HBi.out HB5.out)
            have Hvn : Hid (∀ x, av = some x → 0 < nl → x.block ≠ gb) := hide_ (fun x e h0 => by
              have h1 := HO5.out.open (by rw [hnl]; exact h0)
              obtain ⟨g', c', e1, -, h2, -⟩ := h1
              injection e1 with e1
              rw [e] at e1
              injection e1 with e1
              have h3 := HKi.out.lt
              rw [e1]
              show g' ≠ gb
              omega)
            have HG5 : Hid (GI n (PS C E R i 0) G) := hide_ (HGi.out.congr (fun k _ => ps_zero))
            clear hnl hrow HO5 HSi q1 HGi HKi HRi HPi HBi cr HB5
            go_wp2_with fail
            go_loopw [42] (fun x42 wr => ∃ (t : Nat) (G : List Bool), t ≤ nl ∧ x42 = .int .i64 (t : Int) ∧ Hid (GI n (PS C E R i t) G) ∧ Hid (Blk wr gb 4 (G.map Value.bool)) ∧ Hid (Blk wr gr 4 (R.map Value.bool)) ∧ Hid (Blk wr w.heap.size 25 [.bool enc, .slice ac n cc, .slice ae E.length ce]) ∧ Hid (Row .i64 wr av (sucP C i)) ∧ Hid (Below w.heap.size w wr)) (fun x42 _ => nl - (intOf x42).toNat)
            case atStart => exact ⟨0, G, by omega, rfl, HG5, HKg5, HKr5, HP5, HS5, HBw5⟩
            case round =>
              clear HG5 HKg5 HKr5 HP5 HS5 HBw5
              obtain ⟨t, G, ht, rfl, HGt, HKt, HRt, HPt, HSt2, HBt⟩ := hrel
              generalize wr = wz at *
              by_cases hlt2 : t < nl
              · have hlt2' : (t : Int) < (nl : Int) := by omega
                obtain ⟨y, hy, hyn⟩ := HSt.out t hlt2
                have hynI : (y : Int) < (n : Int) := by omega
                obtain ⟨bv, ov, hav, -, hcv⟩ := HSt2.out.open (by rw [Hnl.out]; omega)
                subst hav
                have cy : wz.cell? ⟨bv, ov + t, none⟩ = some (.int .i64 (y : Int)) := by
                  have h1 := hcv t (by rw [Hnl.out]; exact hlt2)
                  have h2 : (sucP C i).getD t 0 = (y : Int) := hy
                  rw [h2] at h1
                  exact h1
                have hwi : IntKind.i64.wrap ((i : Int) + 1) = (i : Int) + 1 := i64w _ (by omega)
                have zc := bAt HKt.out (k := y) (by rw [HGt.out.len]; exact hyn)
                have zf := HKt.out.frozen y
                obtain ⟨w6, hw6⟩ : ∃ wx, wz.setCell ⟨gb, y, none⟩ (.bool true) = wx := ⟨_, rfl⟩
                have hU6 : Upd (fun q => q = gb) wz w6 := by rw [← hw6]; exact (Upd.refl _ wz).set _ _ (.inl rfl)
                have HK6 : Hid (Blk w6 gb 4 ((G.set y true).map Value.bool)) := hide_ (by rw [← hw6]; exact bset HKt.out)
                have HR6 := hide_ (HRt.out.upd hU6 (fun e => Hne.out e))
                have HP6 := hide_ (HPt.out.upd hU6 (fun e => by have := Hgb.out; omega))
                have HS6 := hide_ (HSt2.out.upd hU6 (fun x e => Hvn.out x e (by omega)))
                have HB6 := hide_ (below_to2 HBt.out hU6 (fun q e => by have := Hgb.out; omega))
                have Hy := hide_ hy
                have Hcn : Hid (cnB C i y ↔ (y ≠ i + 1 ∨ 1 < nl)) := hide_ (by unfold cnB; rw [Hnl.out])
                clear hy hcv hU6
                by_cases h1 : y = i + 1
                · have f1 : ((y : Int) != (i : Int) + 1) = false := by simp; omega
                  by_cases h2 : 1 < nl
                  · have f2 : (1 : Int) < (nl : Int) := by omega
                    have f3 : decide ((1 : Int) < (nl : Int)) = true := decide_eq_true f2
                    have HG6 : Hid (GI n (PS C E R i (t + 1)) (G.set y true)) := hide_ ((HGt.out.set hyn).congr (fun k _ => ps_step Hy.out (Hcn.out.2 (.inr h2))))
                    clear h1 h2 HGt HKt HRt HPt HSt2 HBt
                    go_wp2_with fail
                    try rw [hw6]
                    go_roundw
                    case rel => exact ⟨t + 1, G.set y true, by omega, by go_num, HG6, HK6, HR6, HP6, HS6, HB6⟩
                    case measure => simp [intOf]; omega
                  · have f2 : ¬ (1 : Int) < (nl : Int) := by omega
                    have f3 : decide ((1 : Int) < (nl : Int)) = false := decide_eq_false f2
                    have HG6 : Hid (GI n (PS C E R i (t + 1)) G) := hide_ (HGt.out.congr (fun k _ => ps_skip Hy.out (fun h => (Hcn.out.1 h).elim (fun h => h h1) h2)))
                    clear h1 h2 HGt HK6 HR6 HP6 HS6 HB6 hw6
                    go_wp2_with fail
                    go_roundw
                    case rel => exact ⟨t + 1, G, by omega, by go_num, HG6, HKt, HRt, HPt, HSt2, HBt⟩
                    case measure => simp [intOf]; omega
                · have f1 : ((y : Int) != (i : Int) + 1) = true := by simp; omega
                  have HG6 : Hid (GI n (PS C E R i (t + 1)) (G.set y true)) := hide_ ((HGt.out.set hyn).congr (fun k _ => ps_step Hy.out (Hcn.out.2 (.inl h1))))
                  clear h1 HGt HKt HRt HPt HSt2 HBt
                  go_wp2_with fail
                  try rw [hw6]
                  go_roundw
                  case rel => exact ⟨t + 1, G.set y true, by omega, by go_num, HG6, HK6, HR6, HP6, HS6, HB6⟩
                  case measure => simp [intOf]; omega
              · have et : t = nl := by omega
                have HG6 : Hid (GI n (PR C E R (i + 1)) G) := hide_ (HGt.out.congr (fun k _ => by rw [et, ← Hnl.out]; exact pr_step Hd.out))
                clear et
                go_wp2_with fail
                go_roundw
                case rel => exact ⟨i + 1, G, by omega, by go_num, HG6, HKt, HRt, HPt, HBt⟩
                case measure => simp [intOf]; omega
        · have ei : i = n := by omega
          subst ei
          have HX : Hid (BnTo w i C E (.returned (.slice (some ⟨gb, 0, none⟩) i i)) wp) := hide_ ⟨R, G, gb, rfl, HR.out, GI.bg (by rw [Hn.out]; exact HGi.out), HKi.out, HBi.out⟩
          go_wp2_with fail
          go_ret
          exact HX.out
end Go.Proofs.YtjamfbpdepahnaaGreat
