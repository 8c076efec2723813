import Derived.Test.YtcmkdkocponpiaaPart14

/- mortiselaw22: filled. -/
namespace Go.Proofs.Ytcmkdkocponpiaa
open Go.RowKit
set_option linter.unusedVariables false

/-- Frames that are handed in. -/
structure LRow (w : World) (a : Option Addr) (L : List (Fr × Value)) : Prop where
  row : GRow 7 frc w a L
  tb : ∀ p ∈ L, ∃ ap cp, p.2 = .slice ap p.1.T.length cp ∧ FrA w p.1 ap cp ∧ p.1.T.length ≤ cp ∧ cp ≤ 9223372036854775807
theorem LRow.later {w w' : World} {a : Option Addr} {L : List (Fr × Value)} (h : LRow w a L) (hB : Below w.heap.size w w') : LRow w' a L :=
  ⟨h.row.later hB, fun p hp => by
    obtain ⟨ap, cp, h1, h2, h3⟩ := h.tb p hp
    exact ⟨ap, cp, h1, h2.later hB, h3⟩⟩
theorem LRow.take {w : World} {a : Option Addr} {L : List (Fr × Value)} (h : LRow w a L) (m : Nat) : LRow w a (L.take m) := ⟨h.row.take m, fun p hp => h.tb p (List.mem_of_mem_take hp)⟩
theorem LRow.later_of {w w' : World} {a : Option Addr} {L : List (Fr × Value)} (h : LRow w a L) (hB : Below w.heap.size w w') : LRow w' a L := h.later hB
/-- The blocks of a list of frames. -/
def OwB (v : Value) (P : List (Fr × Value)) (k : Nat) : Prop := v.ownBlock = some k ∨ ∃ p ∈ P, p.2.ownBlock = some k
theorem FOwn.updO {w w' : World} {B : Nat} {v : Value} {P : List (Fr × Value)} {S : Nat → Prop} (h : FOwn w B v P) (hu : Upd S w w') (hs : ∀ k, OwB v P k → ¬ S k) : FOwn w' B v P :=
  h.upd hu (fun k hk => hs k (.inl hk)) (fun p hp k hk => hs k (.inr ⟨p, hp, hk⟩))
theorem FOwn.lies {w : World} {B : Nat} {v : Value} {P : List (Fr × Value)} (h : FOwn w B v P) {k : Nat} (hk : OwB v P k) : B ≤ k ∧ k < w.heap.size := by
  rcases hk with hk | ⟨p, hp, hk⟩
  · exact h.row.lt k hk
  · exact (h.tb p hp).lies hk
/-- A stack, and the same frames in a list of the statement's own, apart. -/
structure Two (w0 w : World) (F : Nat → Prop) (g : Nat) (v : Value) (P : List (Fr × Value)) (m h : Int) : Prop where
  st : Stk w w0.heap.size F g (P.map (·.1)) m h
  ow : FOwn w w0.heap.size v P
  ap : ∀ k, OwB v P k → ¬ F k
  bl : Below w0.heap.size w0 w
  sm : ∀ p ∈ P, p.1.T.length ≤ 300
theorem Two.later {w0 w w' : World} {F : Nat → Prop} {g : Nat} {v : Value} {P : List (Fr × Value)} {m h : Int} (H : Two w0 w F g v P m h) (hB : Below w.heap.size w w') : Two w0 w' F g v P m h :=
  ⟨H.st.later hB, H.ow.later hB, H.ap, below_to H.bl hB, H.sm⟩
theorem lenS {w : World} {B g : Nat} {F : Nat → Prop} {fs : List Fr} {m h z : Int} (hS : Stk w B F g fs m h) (hz : (fs.length : Int) = z) : Calls Try.prog 11 #[.pointer (some ⟨g, 0, none⟩)] w fun e w' => e = .returned (.int .i64 z) ∧ w = w' := by
  obtain ⟨v, P, hM, hP, -, -⟩ := hS
  obtain ⟨av, cv, rfl, -⟩ := hM.own.slice
  have hl : (P.length : Int) = z := by rw [← hz, ← hP, List.length_map]
  rw [← hl]
  exact len_any g av P.length cv _ _ w (hide_ hM.box)
theorem highS {w : World} {B g : Nat} {F : Nat → Prop} {fs : List Fr} {m h : Int} (hS : Stk w B F g fs m h) : Calls Try.prog 12 #[.pointer (some ⟨g, 0, none⟩)] w fun e w' => e = .returned (.int .i64 h) ∧ w = w' := by
  obtain ⟨v, P, hM, hP, -, -⟩ := hS
  exact high_any g _ _ h w (hide_ hM.box)
/-- What filled answers. -/
def FilTo (n : Nat) (w : World) (e : Ending) (w' : World) : Prop :=
  ∃ F g v P, e = .returned (.tuple #[.pointer (some ⟨g, 0, none⟩), v, .bool true]) ∧ P.length ≤ n ∧ Two w w' F g v P ((n : Int) + 1) (n : Int)
set_option maxRecDepth 100000 in
set_option maxHeartbeats 16000000 in
theorem filled_any (a : Option Addr) (c : Nat) (L : List (Fr × Value)) (gone : Int) (w : World) (hcap : L.length ≤ c) (hcm : c ≤ 9223372036854775807) (hL : Hid (LRow w a L)) :
    Calls Try.prog 7 #[.slice a L.length c, .int .i64 gone] w fun e w' => FilTo (L.take 40).length w e w' := by
  have hnb : (L.take 40).length ≤ 40 := by rw [List.length_take]; omega
  have HN1 : Hid (L.length ≤ 40 → (L.take 40).length = L.length) := hide_ (fun h => by rw [List.length_take]; omega)
  have HN2 : Hid (¬ L.length ≤ 40 → (L.take 40).length = 40) := hide_ (fun h => by rw [List.length_take]; omega)
  have HL := hide_ (hL.out.take 40)
  obtain ⟨L2, hL2⟩ : ∃ L2, L.take 40 = L2 := ⟨_, rfl⟩
  rw [hL2] at hnb HN1 HN2 HL
  rw [hL2]
  clear hL hL2
  go_enter Try.func7, Try.ntmps7
  go_upto_if 16 with fail
  go_cut [0] from 17 to 18 (fun x0 wc => x0 = .slice a L2.length c ∧ w = wc)
  case first =>
    by_cases hle : L.length ≤ 40
    · have hd : decide (40 < (L.length : Int)) = false := decide_eq_false (by omega)
      have HE := hide_ (HN1.out hle)
      go_wp2_with fail
      go_meet
      case rel => exact ⟨by rw [HE.out], rfl⟩
    · have hd : decide (40 < (L.length : Int)) = true := decide_eq_true (by omega)
      have hc40 : 40 ≤ c := by omega
      have hl40 : 40 ≤ L.length := by omega
      have HE := hide_ (HN2.out hle)
      go_wp2_with fail
      go_meet
      case rel => exact ⟨by rw [HE.out], rfl⟩
  case rest =>
  obtain ⟨rfl, rfl⟩ := hcut
  clear HN1 HN2
  have hwn := i64w ((L2.length : Int) + 1) (by omega)
  go_wp2_with fail
  refine (new_any ((L2.length : Int) + 1) w).mono ?_
  rintro e w1 (⟨hbad, -, -⟩ | ⟨-, -, F, rfl, hS1, hB1⟩)
  · exact absurd ⟨by omega, by omega⟩ hbad
  have HT1 : Hid (Two w w1 F w.heap.size (.slice none 0 0) [] ((L2.length : Int) + 1) 0) := hide_ ⟨hS1, FOwn.nil _ _, fun k hk => (by
    rcases hk with hk | ⟨p, hp, _⟩
    · cases hk
    · cases hp), hB1, fun p hp => by cases hp⟩
  have HNum : Hid (∀ w', Calls Try.prog 10 #[.int .i64 0] w' fun e w'' => e = .returned (.int .i64 0) ∧ w' = w'') := hide_ (fun w' => num_any 0 w')
  have HGs := hide_ (fun k => hS1.lt (k := k))
  clear hS1 hB1
  go_wp2_with (go_at_call 10; refine (HNum.out _).mono ?_; rintro e w' ⟨rfl, rfl⟩)
  go_loopw [9, 10] (fun x9 x10 wr => ∃ (F : Nat → Prop) (v : Value) (P : List (Fr × Value)), v = x9 ∧ P.length ≤ L2.length ∧ x10 = .int .i64 (P.length : Int) ∧ Hid (Two w wr F w.heap.size v P ((L2.length : Int) + 1) (P.length : Int))) (fun _ x10 _ => L2.length - (intOf x10).toNat)
  case atStart => exact ⟨F, _, [], rfl, Nat.zero_le _, rfl, HT1⟩
  case round =>
    clear HT1 HGs
    obtain ⟨F, v, P, rfl, hPn, rfl, HT⟩ := hrel
    generalize wr = wq at *
    obtain ⟨av, cv, rfl, -⟩ := HT.out.ow.slice
    by_cases hlt : P.length < L2.length
    · have hlt' : (P.length : Int) < L2.length := by omega
      have HLq := hide_ (HL.out.later_of HT.out.bl)
      have hx : L2[P.length]? = some (L2[P.length]'hlt) := List.getElem?_eq_getElem hlt
      obtain ⟨p, hp⟩ : ∃ p, L2[P.length]'hlt = p := ⟨_, rfl⟩
      rw [hp] at hx
      obtain ⟨f, pv⟩ := p
      obtain ⟨at_, ct, hpv, hfa, hct, hcm2⟩ := HLq.out.tb (f, pv) (List.mem_of_getElem? hx)
      have hpv' : pv = .slice at_ f.T.length ct := hpv
      subst hpv'
      obtain ⟨bl, ol, rfl, -, hcl⟩ := HLq.out.row.open (show 0 < L2.length by omega)
      have hcx := hcl P.length _ hx
      have i0 := hcx 0 (by decide); have i1 := hcx 1 (by decide); have i2 := hcx 2 (by decide); have i3 := hcx 3 (by decide); have i4 := hcx 4 (by decide); have i5 := hcx 5 (by decide); have i6 := hcx 6 (by decide)
      simp [frc] at i0 i1 i2 i3 i4 i5 i6
      have HRg := hide_ (rgt_any f at_ ct wq (hide_ hfa) hct hcm2)
      clear hp hx hpv hfa hct hcm2 hcl hcx
      go_wp2_with fail
      refine HRg.out.mono ?_
      rintro e w2 ⟨a2, c2, rfl, HI2, HB2⟩
      have hT2 := HT.out.later HB2.out
      have HOk := hide_ (rgt_ok f)
      have HSm : Hid ((rgt f).T.length ≤ 300) := hide_ (by simp only [rgt, List.length_map, List.length_take]; omega)
      obtain ⟨R, hR⟩ : ∃ R, rgt f = R := ⟨_, rfl⟩
      rw [hR] at HI2 HOk HSm
      rw [hR]
      have HTl : Hid (∀ p ∈ P, ∀ k, p.2.ownBlock = some k → k < wq.heap.size) := hide_ (fun p hp k hk => ((HT.out.ow.tb p hp).lies hk).2)
      obtain ⟨gO, capO, w3, hr, ho, hu, hgO⟩ := hT2.ow.push R (own_base HI2.out HT.out.bl.size) (fun p hp k hk h2 => by
        have h3 := HTl.out p hp k hk
        have h4 : wq.heap.size ≤ k := (HI2.out.lies h2).1
        omega) (by omega) hT2.bl.size
      have hS3 : Stk w3 w.heap.size F w.heap.size (P.map (·.1)) ((L2.length : Int) + 1) (P.length : Int) := hT2.st.upd hu (fun k hk e => hT2.ap k (.inl e) hk)
      have hb23 : Below w.heap.size w2 w3 := hu.below w.heap.size hT2.bl.size (fun k hk => (hT2.ow.row.lt k hk).1)
      have hb3 : Below w.heap.size w w3 := hT2.bl.trans hb23
      have hap3 : ∀ k, OwB (.slice (some ⟨gO, 0, none⟩) (P.length + 1) capO) (P ++ [(R, .slice a2 R.T.length c2)]) k → ¬ F k := fun k hk hF => by
        have hFl := (HT.out.st.lt hF).2
        have hs2 : wq.heap.size ≤ w2.heap.size := HB2.out.size
        rcases hk with hk | ⟨p, hp, hk⟩
        · have hk' : gO = k := own_is hk
          subst hk'
          rcases hgO with h1 | h1
          · exact hT2.ap gO (.inl h1) hF
          · omega
        · rcases List.mem_append.1 hp with hp | hp
          · exact hT2.ap k (.inr ⟨p, hp, hk⟩) hF
          · simp only [List.mem_singleton] at hp
            subst hp
            have h4 : wq.heap.size ≤ k := (HI2.out.lies hk).1
            omega
      have HAp := hide_ hr
      have HO3 := hide_ ho
      have HS3 := hide_ hS3
      have HB3 := hide_ hb3
      have HA3 := hide_ hap3
      obtain ⟨gF, capF, he, -, -, -, -, hcc, -, -⟩ := ho.last
      injection he with he1 he2 he3
      injection he1 with he1
      injection he1 with he1 _ _
      subst he1
      have k0 := hcc 0 (by decide); have k1 := hcc 1 (by decide); have k2 := hcc 2 (by decide); have k3 := hcc 3 (by decide); have k4 := hcc 4 (by decide); have k5 := hcc 5 (by decide); have k6 := hcc 6 (by decide)
      simp only [frc] at k0 k1 k2 k3 k4 k5 k6
      simp at k0 k1 k2 k3 k4 k5 k6
      obtain ⟨a9, c9, h9, hfa3⟩ := (ho.tb (R, .slice a2 R.T.length c2) (List.mem_append_right _ (List.mem_singleton.2 rfl))).fra
      have h9' : Value.slice a2 R.T.length c2 = .slice a9 R.T.length c9 := h9
      injection h9' with h91 _ h93
      subst h91 h93
      have HFa3 := hide_ hfa3
      have HPush := hide_ (push_any w3 w.heap.size F w.heap.size (P.map (·.1)) ((L2.length : Int) + 1) (P.length : Int) R a2 c2 HS3 (hide_ hfa3) hb3.size)
      have hwp := i64w ((P.length : Int) + 1) (by omega)
      clear hT2 hR hr ho hu hgO hS3 hb23 hb3 hap3 hcc he2 he3 h9 hfa3 i0 i1 i2 i3 i4 i5 i6
      go_wp2_with (first | (at_builtin; refine wpList_append_run rfl (.tmp 39) (.tmp 45) 22 22 rfl rfl rfl HAp.out ?_) | fail)
      refine HPush.out.mono ?_
      rintro e w4 (⟨hbad, -, -⟩ | ⟨-, hbad, -, -⟩ | ⟨-, -, rfl, hto⟩)
      · exfalso
        rw [List.length_map] at hbad
        omega
      · rw [HOk.out] at hbad
        cases hbad
      obtain ⟨F4, hS4, hU4, hF4⟩ := hto
      have hmx : max (P.length : Int) (((P.map (·.1)).length : Int) + 1) = (P.length : Int) + 1 := by rw [List.length_map]; omega
      rw [hmx] at hS4
      have HLen := hide_ (lenS hS4 (z := (P.length : Int) + 1) (by simp))
      have HHi := hide_ (highS hS4)
      have hT4 : Two w w4 F4 w.heap.size (.slice (some ⟨gO, 0, none⟩) (P.length + 1) capO) (P ++ [(R, .slice a2 R.T.length c2)]) ((L2.length : Int) + 1) ((P ++ [(R, Value.slice a2 R.T.length c2)]).length : Int) := by
        refine ⟨?_, HO3.out.updO hU4 HA3.out, fun k hk hF => ?_, HB3.out.trans (hU4.below w.heap.size HB3.out.size (fun k hk => (HS3.out.lt hk).1)), fun p hp => ?_⟩
        · rw [List.map_append, List.length_append, List.length_singleton, Int.natCast_add]
          exact hS4
        · rcases hF4 k hF with h1 | h1
          · exact HA3.out k hk h1
          · have := (HO3.out.lies hk).2
            omega
        · rcases List.mem_append.1 hp with hp | hp
          · exact HT.out.sm p hp
          · simp only [List.mem_singleton] at hp
            subst hp
            exact HSm.out
      have HT4 := hide_ hT4
      clear hmx hS4 hU4 hF4 hT4 k0 k1 k2 k3 k4 k5 k6
      go_wp2_with (first | (go_at_call 10; refine (HNum.out _).mono ?_; rintro e w' ⟨rfl, rfl⟩) | (go_at_call 11; refine HLen.out.mono ?_; rintro e w' ⟨rfl, rfl⟩) | (go_at_call 12; refine HHi.out.mono ?_; rintro e w' ⟨rfl, rfl⟩))
      go_roundw
      case rel => exact ⟨F4, _, P ++ [(R, .slice a2 R.T.length c2)], rfl, by simp; omega, by simp, HT4⟩
      case measure => simp [intOf]; omega
    · have HEq : Hid (P.length = L2.length) := hide_ (by omega)
      have hlt' : ¬ ((P.length : Int) < L2.length) := by omega
      have HT2 : Hid (Two w wq F w.heap.size (.slice av P.length cv) P ((L2.length : Int) + 1) (L2.length : Int)) := hide_ (by
        have h := HT.out
        have e : (P.length : Int) = L2.length := by rw [HEq.out]
        rw [e] at h
        exact h)
      have hrr := restP_in (n := gone) (m := (L2.length : Int) + 1) (by omega)
      have HRs := hide_ (rest_any gone ((L2.length : Int) + 1) wq (by omega) (by omega))
      obtain ⟨r, hr⟩ : ∃ r : Nat, restP gone ((L2.length : Int) + 1) = (r : Int) := ⟨(restP gone ((L2.length : Int) + 1)).toNat, by omega⟩
      rw [hr] at hrr HRs
      have hrn : r ≤ L2.length := by omega
      clear hlt hr hrr HT
      go_wp2_with (go_at_call 13; refine HRs.out.mono ?_; rintro e w' ⟨rfl, rfl⟩)
      have HRel : Hid (P.length + r = L2.length + r) := hide_ (by rw [HEq.out])
      go_loopw [9, 11] (fun x9 x11 wr => ∃ (j : Nat) (F : Nat → Prop) (v : Value) (P : List (Fr × Value)), v = x9 ∧ j ≤ r ∧ x11 = .int .i64 (j : Int) ∧ Hid (P.length + r = L2.length + j) ∧ Hid (Two w wr F w.heap.size v P ((L2.length : Int) + 1) (L2.length : Int))) (fun _ x11 _ => (intOf x11).toNat)
      case atStart => exact ⟨r, F, _, P, rfl, Nat.le_refl _, rfl, HRel, HT2⟩
      case round =>
        clear HT2 HRel HEq
        obtain ⟨j, F, v, P, rfl, hj, rfl, HJ, HT⟩ := hrel
        generalize wr = wk at *
        by_cases hj0 : 0 < j
        · have hj0' : (0 : Int) < j := by omega
          rcases List.eq_nil_or_concat P with rfl | ⟨Q, p, rfl⟩
          · exfalso
            have := HJ.out
            simp at this
            omega
          rw [List.concat_eq_append] at HT HJ
          have HQ : Hid (Q.length + r = L2.length + (j - 1)) := hide_ (by have := HJ.out; simp at this; omega)
          obtain ⟨gO, capO, rfl, hqc, hcm2, -, -, -, -, -⟩ := HT.out.ow.last
          unfold maxLen at hcm2
          obtain ⟨f, pv⟩ := p
          have HPop := hide_ (pop_any wk w.heap.size F w.heap.size ((Q ++ [(f, pv)]).map (·.1)) ((L2.length : Int) + 1) (L2.length : Int) (hide_ HT.out.st) HT.out.bl.size)
          go_wp2_with fail
          refine HPop.out.mono ?_
          rintro e w1' (⟨hbad, -, -, -⟩ | ⟨l, f', a2, c2, hfs, rfl, HI1, HS1, HU1⟩)
          · exfalso
            simp at hbad
          have hfs2 : l = Q.map (·.1) ∧ f' = f := by
            rw [List.map_append] at hfs
            have h1 := List.append_inj' hfs rfl
            exact ⟨h1.1.symm, by have := h1.2; simp at this; exact this.symm⟩
          obtain ⟨rfl, rfl⟩ := hfs2
          have ho1 := HT.out.ow.updO HU1.out HT.out.ap
          have hb1 := HT.out.bl.trans (HU1.out.below w.heap.size HT.out.bl.size (fun k hk => (HT.out.st.lt hk).1))
          obtain ⟨w2, hw2⟩ : ∃ w2, w2 = w1'.alloc (.cells #[.int .i64 f'.r, .int .i64 f'.a, .int .i64 f'.b, .int .i64 f'.e, .int .i64 f'.n, .int .i64 f'.x, .slice a2 f'.T.length c2] 39) := ⟨_, rfl⟩
          have hB2 : Below w1'.heap.size w1' w2 := by rw [hw2]; exact below1 _ _
          have kb : Blk w2 w1'.heap.size 39 (frc (f', .slice a2 f'.T.length c2)) := by rw [hw2]; exact Blk.newA w1' _ _
          have HKb := hide_ kb
          have HO2 := hide_ (ho1.later hB2)
          have HS2 := hide_ (HS1.out.later hB2)
          have HB2 := hide_ (below_to hb1 hB2)
          have HI2 := hide_ (HI1.out.later hB2)
          have HApt := hide_ HT.out.ap
          have HSmT := hide_ HT.out.sm
          have hsz2 : w.heap.size ≤ w2.heap.size := HB2.out.size
          obtain ⟨a9, c9, h9, hfa9⟩ := (HO2.out.tb (f', pv) (List.mem_append_right _ (List.mem_singleton.2 rfl))).fra
          have h9' : pv = .slice a9 f'.T.length c9 := h9
          subst h9'
          have HFa9 := hide_ hfa9
          obtain ⟨a8, c8, h8, hfa8⟩ := HI2.out.fra
          injection h8 with h81 _ h83
          subst h81 h83
          have HFa8 := hide_ hfa8
          have HCl : Hid (∀ w', Below w2.heap.size w2 w' → (fun w' => w'.cell? ⟨w1'.heap.size, 0, none⟩ = some (.int .i64 f'.r) ∧ w'.cell? ⟨w1'.heap.size, 1, none⟩ = some (.int .i64 f'.a) ∧ w'.cell? ⟨w1'.heap.size, 2, none⟩ = some (.int .i64 f'.b) ∧ w'.cell? ⟨w1'.heap.size, 3, none⟩ = some (.int .i64 f'.e) ∧ w'.cell? ⟨w1'.heap.size, 4, none⟩ = some (.int .i64 f'.n) ∧ w'.cell? ⟨w1'.heap.size, 5, none⟩ = some (.int .i64 f'.x) ∧ w'.cell? ⟨w1'.heap.size, 6, none⟩ = some (.slice a2 f'.T.length c2) ∧ w'.cell? ⟨gO, Q.length * 7, none⟩ = some (.int .i64 f'.r) ∧ w'.cell? ⟨gO, Q.length * 7 + 1, none⟩ = some (.int .i64 f'.a) ∧ w'.cell? ⟨gO, Q.length * 7 + 2, none⟩ = some (.int .i64 f'.b) ∧ w'.cell? ⟨gO, Q.length * 7 + 3, none⟩ = some (.int .i64 f'.e) ∧ w'.cell? ⟨gO, Q.length * 7 + 4, none⟩ = some (.int .i64 f'.n) ∧ w'.cell? ⟨gO, Q.length * 7 + 5, none⟩ = some (.int .i64 f'.x) ∧ w'.cell? ⟨gO, Q.length * 7 + 6, none⟩ = some (.slice a9 f'.T.length c9)) w') := hide_ (fun w' hb => by
            have k := HKb.out.later hb
            obtain ⟨gF, capF, he, -, -, -, -, hcc, -, -⟩ := (HO2.out.later hb).last
            injection he with he1 he2 he3
            injection he1 with he1
            injection he1 with he1 _ _
            subst he1
            exact ⟨k.cell 0, k.cell 1, k.cell 2, k.cell 3, k.cell 4, k.cell 5, k.cell 6, hcc 0 (by decide), hcc 1 (by decide), hcc 2 (by decide), hcc 3 (by decide), hcc 4 (by decide), hcc 5 (by decide), hcc 6 (by decide)⟩)
          have HSame := hide_ (same_yes f' a2 a9 c2 c9 w2.drew (hide_ ⟨HFa8.out.1.drew, HFa8.out.2⟩) (hide_ ⟨HFa9.out.1.drew, HFa9.out.2⟩))
          have hqi := i64w (Q.length : Int) (by omega)
          have hqlt : (Q.length : Int) < (Q.length : Int) + 1 := by omega
          have HTn : Hid (∀ w', Below w2.heap.size w2 w' → Two w w' F w.heap.size (.slice (some ⟨gO, 0, none⟩) Q.length capO) Q ((L2.length : Int) + 1) (L2.length : Int)) := hide_ (fun w' hb => ⟨HS2.out.later hb, (HO2.out.later hb).init, fun k hk hF => by
            refine HApt.out k ?_ hF
            rcases hk with hk | ⟨q, hq, hk⟩
            · exact .inl hk
            · exact .inr ⟨q, List.mem_append_left _ hq, hk⟩, below_to HB2.out hb, fun p hp => HSmT.out p (List.mem_append_left _ hp)⟩)
          have hqc' : Q.length ≤ capO := by omega
          clear hfs ho1 hb1 hB2 kb h9 hfa9 hfa8 HT HPop hqc
          go_upto_region 17 with fail
          rw [← hw2]
          clear hw2
          refine wp_region_last 13 (fun w' => w'.cell? ⟨w1'.heap.size, 0, none⟩ = some (.int .i64 f'.r) ∧ w'.cell? ⟨w1'.heap.size, 1, none⟩ = some (.int .i64 f'.a) ∧ w'.cell? ⟨w1'.heap.size, 2, none⟩ = some (.int .i64 f'.b) ∧ w'.cell? ⟨w1'.heap.size, 3, none⟩ = some (.int .i64 f'.e) ∧ w'.cell? ⟨w1'.heap.size, 4, none⟩ = some (.int .i64 f'.n) ∧ w'.cell? ⟨w1'.heap.size, 5, none⟩ = some (.int .i64 f'.x) ∧ w'.cell? ⟨w1'.heap.size, 6, none⟩ = some (.slice a2 f'.T.length c2) ∧ w'.cell? ⟨gO, Q.length * 7, none⟩ = some (.int .i64 f'.r) ∧ w'.cell? ⟨gO, Q.length * 7 + 1, none⟩ = some (.int .i64 f'.a) ∧ w'.cell? ⟨gO, Q.length * 7 + 2, none⟩ = some (.int .i64 f'.b) ∧ w'.cell? ⟨gO, Q.length * 7 + 3, none⟩ = some (.int .i64 f'.e) ∧ w'.cell? ⟨gO, Q.length * 7 + 4, none⟩ = some (.int .i64 f'.n) ∧ w'.cell? ⟨gO, Q.length * 7 + 5, none⟩ = some (.int .i64 f'.x) ∧ w'.cell? ⟨gO, Q.length * 7 + 6, none⟩ = some (.slice a9 f'.T.length c9)) (by kernel_rfl) (HCl.out _ ((Below.refl w2.heap.size w2).drew)) (fun hHeld => ?_)
          refine wpAnyF_take [13, 3, 1] (by kernel_rfl) (i := 0) (v := ?vf1) rfl (by kernel_rfl) (by kernel_rfl) (by kernel_rfl) (fun _ _ _ h => h) (Or.inl ⟨by kernel_rfl, ?hyf1⟩) hHeld ?restf1
          case hyf1 => intro w' hSw; (try dsimp only at hSw); go_simp; try with_reducible rfl
          simp only [Act.put]
          try dsimp only
          refine wpAnyF_takeC [13, 3] (by kernel_rfl) (i := 1) (v := .int .i64 0) rfl (by kernel_rfl) (by kernel_rfl) (by kernel_rfl) (fun _ _ _ h => h) ⟨by kernel_rfl, _, #[.int .i64 0], fun w' hSw => ⟨by (try dsimp only at hSw); go_simp; try rfl, HNum.out w'⟩⟩ hHeld ?_
          simp only [Act.put]
          try dsimp only
          refine wpAnyF_take [13, 3] (by kernel_rfl) (i := 2) (v := ?vf2) rfl (by kernel_rfl) (by kernel_rfl) (by kernel_rfl) (fun _ _ _ h => h) (Or.inl ⟨by kernel_rfl, ?hyf2⟩) hHeld ?restf2
          case hyf2 => intro w' hSw; (try dsimp only at hSw); go_simp; try with_reducible rfl
          simp only [Act.put]
          try dsimp only
          refine wpAnyF_take [13] (by kernel_rfl) (i := 3) (v := ?vf3) rfl (by kernel_rfl) (by kernel_rfl) (by kernel_rfl) (fun _ _ _ h => h) (Or.inl ⟨by kernel_rfl, ?hyf3⟩) hHeld ?restf3
          case hyf3 => intro w' hSw; (try dsimp only at hSw); go_simp; try with_reducible rfl
          simp only [Act.put]
          try dsimp only
          refine wpAnyF_take [13, 12, 11] (by kernel_rfl) (i := 4) (v := ?vf4) rfl (by kernel_rfl) (by kernel_rfl) (by kernel_rfl) (fun _ _ _ h => h) (Or.inl ⟨by kernel_rfl, ?hyf4⟩) hHeld ?restf4
          case hyf4 => intro w' hSw; (try dsimp only at hSw); go_simp; try with_reducible rfl
          simp only [Act.put]
          try dsimp only
          refine wpAnyF_take [13, 12, 11, 10, 9] (by kernel_rfl) (i := 5) (v := ?vf5) rfl (by kernel_rfl) (by kernel_rfl) (by kernel_rfl) (fun _ _ _ h => h) (Or.inl ⟨by kernel_rfl, ?hyf5⟩) hHeld ?restf5
          case hyf5 => intro w' hSw; (try dsimp only at hSw); go_simp; try with_reducible rfl
          simp only [Act.put]
          try dsimp only
          refine wpAnyF_take [13, 12, 11, 10, 9, 8, 7] (by kernel_rfl) (i := 6) (v := ?vf6) rfl (by kernel_rfl) (by kernel_rfl) (by kernel_rfl) (fun _ _ _ h => h) (Or.inl ⟨by kernel_rfl, ?hyf6⟩) hHeld ?restf6
          case hyf6 => intro w' hSw; (try dsimp only at hSw); go_simp; try with_reducible rfl
          simp only [Act.put]
          try dsimp only
          refine wpAnyF_take [13, 12, 11, 10, 9, 8] (by kernel_rfl) (i := 7) (v := ?vf7) rfl (by kernel_rfl) (by kernel_rfl) (by kernel_rfl) (fun _ _ _ h => h) (Or.inl ⟨by kernel_rfl, ?hyf7⟩) hHeld ?restf7
          case hyf7 => intro w' hSw; (try dsimp only at hSw); go_simp; try with_reducible rfl
          simp only [Act.put]
          try dsimp only
          refine wpAnyF_take [13, 12, 11, 10, 9] (by kernel_rfl) (i := 8) (v := ?vf8) rfl (by kernel_rfl) (by kernel_rfl) (by kernel_rfl) (fun _ _ _ h => h) (Or.inl ⟨by kernel_rfl, ?hyf8⟩) hHeld ?restf8
          case hyf8 => intro w' hSw; (try dsimp only at hSw); go_simp; try with_reducible rfl
          simp only [Act.put]
          try dsimp only
          refine wpAnyF_take [13, 12, 11, 10] (by kernel_rfl) (i := 9) (v := ?vf9) rfl (by kernel_rfl) (by kernel_rfl) (by kernel_rfl) (fun _ _ _ h => h) (Or.inl ⟨by kernel_rfl, ?hyf9⟩) hHeld ?restf9
          case hyf9 => intro w' hSw; (try dsimp only at hSw); go_simp; try with_reducible rfl
          simp only [Act.put]
          try dsimp only
          refine wpAnyF_take [13, 12, 11] (by kernel_rfl) (i := 10) (v := ?vf10) rfl (by kernel_rfl) (by kernel_rfl) (by kernel_rfl) (fun _ _ _ h => h) (Or.inl ⟨by kernel_rfl, ?hyf10⟩) hHeld ?restf10
          case hyf10 => intro w' hSw; (try dsimp only at hSw); go_simp; try with_reducible rfl
          simp only [Act.put]
          try dsimp only
          refine wpAnyF_ready (rs := [11]) (by kernel_rfl) (by simp) ?_
          refine AllReadyF.cons rfl (fun K hK => ?_) AllReadyF.nil
          go_simp
          refine HSame.out.mono ?_
          rintro e w3 ⟨rfl, hB3⟩
          have hBs : Below w2.heap.size w2 w3 := below_to ((Below.refl w2.heap.size w2).drew) hB3
          clear hB3
          dsimp only
          refine hK.out _ _ (HCl.out _ hBs) (fun hHeld => ?_)
          clear hK K
          refine wpAnyF_take [13] (by kernel_rfl) (i := 12) (v := ?vf11) rfl (by kernel_rfl) (by kernel_rfl) (by kernel_rfl) (fun _ _ _ h => h) (Or.inl ⟨by kernel_rfl, ?hyf11⟩) hHeld ?restf11
          case hyf11 => intro w' hSw; (try dsimp only at hSw); go_simp; try with_reducible rfl
          simp only [Act.put]
          try dsimp only
          refine wpAnyF_ready (rs := [13]) (by kernel_rfl) (by simp) ?_
          refine AllReadyF.last rfl (fun K hK => ?_)
          go_simp
          refine hK.out _ _ ?_
          clear hK K
          refine wpAnyF_done (by kernel_rfl) ?_ _
          have HB3 := hide_ hBs
          clear hBs
          go_wp2_with fail
          have hjw := i64w ((j : Int) - 1) (by omega)
          have hwj : ((j : Int) - 1) = ((j - 1 : Nat) : Int) := by omega
          go_wp2_with fail
          go_roundw
          case rel => exact ⟨j - 1, F, _, Q, rfl, by omega, by rw [← hwj], HQ, HTn.out _ HB3.out⟩
          case measure => simp [intOf]; omega
        · have hj0' : ¬ ((0 : Int) < j) := by omega
          have HLen := hide_ (lenS HT.out.st (z := (P.length : Int)) (by simp))
          have HHi := hide_ (highS HT.out.st)
          obtain ⟨av2, cv2, rfl, -⟩ := HT.out.ow.slice
          go_wp2_with (first | (go_at_call 11; refine HLen.out.mono ?_; rintro e w' ⟨rfl, rfl⟩) | (go_at_call 12; refine HHi.out.mono ?_; rintro e w' ⟨rfl, rfl⟩))
          go_ret3
          exact ⟨F, w.heap.size, _, P, rfl, by have := HJ.out; omega, HT.out⟩
end Go.Proofs.Ytcmkdkocponpiaa

/- Frames: Go, Mark, Pop. -/
namespace Go.Proofs.Ytcmkdkocponpiaa
open Go.RowKit
set_option linter.unusedVariables false

def hdf (f : Fr) (T : List Int) : Fr := ⟨f.r, f.a, f.b, f.e, f.n, f.x, T⟩
theorem frB_hdf (f : Fr) : frB (hdf f []) = hdB f := by simp [frB, hdf, hdB]
theorem set7_hdf (w : World) (g o : Nat) (f : Fr) (T : List Int) (v : Value) : set7 w g o (hdf f T) v = set7 w g o f v := by simp only [set7, hdf]
theorem hdB_hdf (f : Fr) (T : List Int) : hdB (hdf f T) = hdB f := rfl
/-- What Go answers. -/
def GoTo (w : World) (B : Nat) (F : Nat → Prop) (g : Nat) (fs : List Fr) (m h : Int) (f : Fr) (e : Ending) (w' : World) : Prop :=
  (fs = [] ∧ e = .returned (.int .i64 220) ∧ StkTo w B F w' g fs m h) ∨
  (fs ≠ [] ∧ hdB f = false ∧ e = .returned (.int .i64 3) ∧ StkTo w B F w' g fs m h) ∨
  (∃ l y, fs = l ++ [y] ∧ hdB f = true ∧ e = .returned (.int .i64 0) ∧ StkTo w B F w' g (l ++ [hdf f y.T]) m h)
set_option maxRecDepth 100000 in
set_option maxHeartbeats 16000000 in
theorem go_any (w : World) (B : Nat) (F : Nat → Prop) (g : Nat) (fs : List Fr) (m h : Int) (f : Fr) (a : Option Addr) (n0 c : Nat) (hS : Hid (Stk w B F g fs m h)) (hBw : B ≤ w.heap.size) :
    Calls Try.prog 21 #[.pointer (some ⟨g, 0, none⟩), .agg #[.int .i64 f.r, .int .i64 f.a, .int .i64 f.b, .int .i64 f.e, .int .i64 f.n, .int .i64 f.x, .slice a n0 c]] w fun e w' => GoTo w B F g fs m h f e w' := by
  obtain ⟨v, P, hM, hP, hF, hFl⟩ := hS.out
  have HS := hS
  obtain ⟨w1, hw1⟩ : ∃ wx, wx = w.alloc (.cells #[.int .i64 f.r, .int .i64 f.a, .int .i64 f.b, .int .i64 f.e, .int .i64 f.n, .int .i64 f.x, .slice a n0 c] 39) := ⟨_, rfl⟩
  have hB1 : Below w.heap.size w w1 := by rw [hw1]; exact below1 _ _
  have k1 : Blk w1 w.heap.size 39 (frc (f, .slice a n0 c)) := by rw [hw1]; exact Blk.newA w _ _
  have HPm := hide_ hP
  have HF := hide_ hF
  have HFl := hide_ hFl
  have hM1 := hM.later hB1
  have HK1 := hide_ k1
  have HB1 := hide_ hB1
  have j0 := k1.cell 0; have j1 := k1.cell 1; have j2 := k1.cell 2; have j3 := k1.cell 3; have j4 := k1.cell 4; have j5 := k1.cell 5; have j6 := k1.cell 6
  simp [frc] at j0 j1 j2 j3 j4 j5 j6
  clear hS hF hFl hM hP k1 hB1
  rcases List.eq_nil_or_concat P with rfl | ⟨Q, p, rfl⟩
  · obtain ⟨av, cv, rfl, -⟩ := hM1.own.slice
    have HL := hide_ (last_nil g av cv _ _ w1 (hide_ hM1.box))
    clear hM1
    go_enter Try.func21, Try.ntmps21
    go_upto_region 1 with fail
    rw [← hw1]
    clear hw1
    go_wp2_with (go_at_call 33; refine HL.out.mono ?_; rintro e w' ⟨rfl, rfl⟩)
    go_ret
    exact .inl ⟨HPm.out.symm, rfl, HS.out.same HB1.out⟩
  · rw [List.concat_eq_append] at hM1 HPm HF
    obtain ⟨gF, cap, rfl, hn, hm, hbg, hlt, hc, hz, hbk⟩ := hM1.own.last
    unfold maxLen at hm
    have HL := hide_ (last_some g gF Q.length cap _ _ w1 (by omega) (hide_ hM1.box))
    have HN : Hid (fs ≠ []) := hide_ (by rw [← HPm.out]; simp)
    have HM1 := hide_ hM1
    have HW1 := hide_ (with_any f a none n0 c 0 0 w1.drew)
    clear hM1 hc hz hbk hn hm hbg hlt
    go_enter Try.func21, Try.ntmps21
    go_upto_region 1 with fail
    rw [← hw1]
    clear hw1
    go_wp2_with (go_at_call 33; refine HL.out.mono ?_; rintro e w' ⟨rfl, rfl⟩)
    refine HW1.out.mono ?_
    rintro e w2 ⟨rfl, hB2⟩
    have hB12 : Below w1.heap.size w1 w2 := below_to ((Below.refl w1.heap.size w1).drew) hB2
    have HRi : Hid (Calls Try.prog 34 #[.agg #[.int .i64 f.r, .int .i64 f.a, .int .i64 f.b, .int .i64 f.e, .int .i64 f.n, .int .i64 f.x, .slice none 0 0]] w2 fun e w' => e = .returned (.bool (hdB f)) ∧ Below w2.heap.size w2 w') := hide_ (by
      have h := right_any (hdf f []) none 0 w2 (hide_ ⟨.inl ⟨rfl, rfl⟩, fun _ => rfl, Nat.zero_le _⟩)
      rw [frB_hdf] at h
      simp only [hdf, List.length_nil] at h
      exact h)
    clear hB2
    go_wp2_with fail
    refine HRi.out.mono ?_
    rintro e w3 ⟨rfl, hB3⟩
    have hB13 : Below w1.heap.size w1 w3 := below_to hB12 hB3
    cases hf : hdB f with
    | false =>
      have HFf := hide_ hf
      have HB3 := hide_ (below_to HB1.out hB13)
      clear hf hB3 hB12 hB13
      go_wp2_with fail
      go_ret
      exact .inr (.inl ⟨HN.out, HFf.out, rfl, HS.out.same HB3.out⟩)
    | true =>
      have HFf := hide_ hf
      obtain ⟨y, pv⟩ := p
      have hM3 := HM1.out.later hB13
      obtain ⟨at_, ct, hpv, hfa⟩ := (hM3.own.tb (y, pv) (List.mem_append_right _ (List.mem_singleton.2 rfl))).fra
      have hpv' : pv = .slice at_ y.T.length ct := hpv
      subst hpv'
      have HM3 := hide_ hM3
      have HK3 := hide_ (HK1.out.later hB13)
      have HB3 := hide_ (below_to HB1.out hB13)
      have hcl : ∀ w', Below w3.heap.size w3 w' → w'.cell? ⟨gF, Q.length * 7 + 6, none⟩ = some (.slice at_ y.T.length ct) := fun w' hb => by
        exact (HM3.out.later hb).c7.1.2.2.2.2.2.2
      have HSS : Hid (∀ w', Below w3.heap.size w3 w' → (fun w' => w'.cell? ⟨w.heap.size, 0, none⟩ = some (.int .i64 f.r) ∧ w'.cell? ⟨w.heap.size, 1, none⟩ = some (.int .i64 f.a) ∧ w'.cell? ⟨w.heap.size, 2, none⟩ = some (.int .i64 f.b) ∧ w'.cell? ⟨w.heap.size, 3, none⟩ = some (.int .i64 f.e) ∧ w'.cell? ⟨w.heap.size, 4, none⟩ = some (.int .i64 f.n) ∧ w'.cell? ⟨w.heap.size, 5, none⟩ = some (.int .i64 f.x) ∧ w'.cell? ⟨w.heap.size, 6, none⟩ = some (.slice a n0 c) ∧ w'.cell? ⟨gF, Q.length * 7 + 6, none⟩ = some (.slice at_ y.T.length ct)) w') := hide_ (fun w' hb => by
        have k := HK3.out.later hb
        exact ⟨k.cell 0, k.cell 1, k.cell 2, k.cell 3, k.cell 4, k.cell 5, k.cell 6, hcl w' hb⟩)
      have HW3 := hide_ (with_any f a at_ n0 c y.T.length ct w3.drew)
      clear hf hB3 hB12 hB13 hM3 hfa hcl j0 j1 j2 j3 j4 j5 j6
      go_wp2_with fail
      refine wp_region_last 8 (fun w' => w'.cell? ⟨w.heap.size, 0, none⟩ = some (.int .i64 f.r) ∧ w'.cell? ⟨w.heap.size, 1, none⟩ = some (.int .i64 f.a) ∧ w'.cell? ⟨w.heap.size, 2, none⟩ = some (.int .i64 f.b) ∧ w'.cell? ⟨w.heap.size, 3, none⟩ = some (.int .i64 f.e) ∧ w'.cell? ⟨w.heap.size, 4, none⟩ = some (.int .i64 f.n) ∧ w'.cell? ⟨w.heap.size, 5, none⟩ = some (.int .i64 f.x) ∧ w'.cell? ⟨w.heap.size, 6, none⟩ = some (.slice a n0 c) ∧ w'.cell? ⟨gF, Q.length * 7 + 6, none⟩ = some (.slice at_ y.T.length ct)) (by kernel_rfl) (HSS.out _ ((Below.refl w3.heap.size w3).drew)) (fun hHeld => ?_)
      refine wpAnyF_take [8] (by kernel_rfl) (i := 0) (v := ?vf1) rfl (by kernel_rfl) (by kernel_rfl) (by kernel_rfl) (fun _ _ _ h => h) (Or.inl ⟨by kernel_rfl, ?hyf1⟩) hHeld ?restf1
      case hyf1 => intro w' hSw; (try dsimp only at hSw); go_simp; try with_reducible rfl
      simp only [Act.put]
      try dsimp only
      refine wpAnyF_take [8] (by kernel_rfl) (i := 1) (v := ?vf2) rfl (by kernel_rfl) (by kernel_rfl) (by kernel_rfl) (fun _ _ _ h => h) (Or.inl ⟨by kernel_rfl, ?hyf2⟩) hHeld ?restf2
      case hyf2 => intro w' hSw; (try dsimp only at hSw); go_simp; try with_reducible rfl
      simp only [Act.put]
      try dsimp only
      refine wpAnyF_take [8] (by kernel_rfl) (i := 2) (v := ?vf3) rfl (by kernel_rfl) (by kernel_rfl) (by kernel_rfl) (fun _ _ _ h => h) (Or.inl ⟨by kernel_rfl, ?hyf3⟩) hHeld ?restf3
      case hyf3 => intro w' hSw; (try dsimp only at hSw); go_simp; try with_reducible rfl
      simp only [Act.put]
      try dsimp only
      refine wpAnyF_take [8] (by kernel_rfl) (i := 3) (v := ?vf4) rfl (by kernel_rfl) (by kernel_rfl) (by kernel_rfl) (fun _ _ _ h => h) (Or.inl ⟨by kernel_rfl, ?hyf4⟩) hHeld ?restf4
      case hyf4 => intro w' hSw; (try dsimp only at hSw); go_simp; try with_reducible rfl
      simp only [Act.put]
      try dsimp only
      refine wpAnyF_take [8] (by kernel_rfl) (i := 4) (v := ?vf5) rfl (by kernel_rfl) (by kernel_rfl) (by kernel_rfl) (fun _ _ _ h => h) (Or.inl ⟨by kernel_rfl, ?hyf5⟩) hHeld ?restf5
      case hyf5 => intro w' hSw; (try dsimp only at hSw); go_simp; try with_reducible rfl
      simp only [Act.put]
      try dsimp only
      refine wpAnyF_take [8] (by kernel_rfl) (i := 5) (v := ?vf6) rfl (by kernel_rfl) (by kernel_rfl) (by kernel_rfl) (fun _ _ _ h => h) (Or.inl ⟨by kernel_rfl, ?hyf6⟩) hHeld ?restf6
      case hyf6 => intro w' hSw; (try dsimp only at hSw); go_simp; try with_reducible rfl
      simp only [Act.put]
      try dsimp only
      refine wpAnyF_ready (rs := [6]) (by kernel_rfl) (by simp) ?_
      refine AllReadyF.cons rfl (fun K hK => ?_) AllReadyF.nil
      go_simp
      refine HW3.out.mono ?_
      rintro e w4 ⟨rfl, hB4⟩
      have HB4 := hide_ hB4
      clear hB4
      dsimp only
      refine hK.out _ _ (HSS.out _ (below_to ((Below.refl w3.heap.size w3).drew) HB4.out)) (fun hHeld => ?_)
      clear hK K
      refine wpAnyF_take [8] (by kernel_rfl) (i := 7) (v := ?vf7) rfl (by kernel_rfl) (by kernel_rfl) (by kernel_rfl) (fun _ _ _ h => h) (Or.inl ⟨by kernel_rfl, ?hyf7⟩) hHeld ?restf7
      case hyf7 => intro w' hSw; (try dsimp only at hSw); go_simp; try with_reducible rfl
      simp only [Act.put]
      try dsimp only
      refine wpAnyF_ready (rs := [8]) (by kernel_rfl) (by simp) ?_
      refine AllReadyF.last rfl (fun K hK => ?_)
      obtain ⟨⟨i0, i1, i2, i3, i4, i5, i6⟩, hz⟩ := (HM3.out.later (below_to ((Below.refl w3.heap.size w3).drew) HB4.out)).c7
      have y0 := hz (Q.length * 7); have y1 := hz (Q.length * 7 + 1); have y2 := hz (Q.length * 7 + 2); have y3 := hz (Q.length * 7 + 3); have y4 := hz (Q.length * 7 + 4); have y5 := hz (Q.length * 7 + 5); have y6 := hz (Q.length * 7 + 6)
      clear hz hHeld
      go_simp
      refine hK.out _ _ ?_
      clear hK K
      refine wpAnyF_done (by kernel_rfl) ?_ _
      go_wp2_with fail
      go_ret
      refine .inr (.inr ⟨Q.map (·.1), y, by rw [← HPm.out, List.map_append]; rfl, HFf.out, rfl, ?_⟩)
      have hb34 : Below w3.heap.size w3 w4 := below_to ((Below.refl w3.heap.size w3).drew) HB4.out
      have hM4 := HM3.out.later hb34
      have hIt := hM4.own.tb (y, .slice at_ y.T.length ct) (List.mem_append_right _ (List.mem_singleton.2 rfl))
      have hry := HM3.out.rt (y, .slice at_ y.T.length ct) (List.mem_append_right _ (List.mem_singleton.2 rfl))
      have hto := hM4.setLast (Upd.of_below (below_to HB3.out hb34)) HF.out HFl.out hBw (hdf f y.T) (.slice at_ y.T.length ct) hIt (fun k hk => .inr hk) (frB_of (frB_is hry).1 (frB_is hry).2.1 HFf.out)
      rw [set7_hdf] at hto
      exact hto
/-- The last frame's table is another one. -/
theorem StM.markLast {w0 w w' : World} {B g : Nat} {F : Nat → Prop} {gF cap : Nat} {Q : List (Fr × Value)} {p : Fr × Value} {m h : Int} (H : StM w B g (.slice (some ⟨gF, 0, none⟩) (Q.length + 1) cap) (Q ++ [p]) m h)
    (hu : Upd F w0 w) (hF : ∀ k, skB g (.slice (some ⟨gF, 0, none⟩) (Q.length + 1) cap) (Q ++ [p]) k → F k) (hFl : ∀ k, F k → B ≤ k ∧ k < w0.heap.size) (hB0 : B ≤ w0.heap.size)
    (hp : Upd (fun k => p.2.ownBlock = some k) w w') (T : List Int) (v : Value) (hv : IOwn w' B v T) (hn : ∀ k, v.ownBlock = some k → p.2.ownBlock = some k ∨ w.heap.size ≤ k) (hf : frB (hdf p.1 T) = true) :
    StkTo w0 B F (w'.setCell ⟨gF, Q.length * 7 + 6, none⟩ v) g (Q.map (·.1) ++ [hdf p.1 T]) m h := by
  have hx : (Q ++ [p])[Q.length]? = some p := by simp
  have hpm : p ∈ Q ++ [p] := List.mem_append_right _ (List.mem_singleton.2 rfl)
  have hFg : F gF := hF gF (.inr (.inl rfl))
  have hrow : w'.ownsRow B 39 7 (.slice (some ⟨gF, 0, none⟩) (Q.length + 1) cap) (Q ++ [p]).length (cellsG frc (Q ++ [p])) := ownS_upd H.own.row hp (fun k hk e => H.own.ne hpm e hk)
  have hrow2 := row_setc (j := 6) frc_len hrow hx (hdf p.1 T, v) v (by decide) rfl
  rw [set_last] at hrow2
  have hg1 := (Upd.refl (fun k => k = gF) w').set ⟨gF, Q.length * 7 + 6, none⟩ v (.inl rfl)
  obtain ⟨ys, hbF⟩ := ownS_type hrow (show (Value.slice (some ⟨gF, 0, none⟩) (Q.length + 1) cap).ownBlock = some gF from rfl)
  have hv2 : IOwn (w'.setCell ⟨gF, Q.length * 7 + 6, none⟩ v) B v T := hv.upd hg1 (fun k hk e => by subst e; exact hv.notF hbF (by decide) hk)
  have hq : ∀ q ∈ Q, ∀ k, q.2.ownBlock = some k → ¬ p.2.ownBlock = some k := fun q hq k h1 h2 => (List.pairwise_append.1 H.own.ap).2.2 q hq p (List.mem_singleton.2 rfl) k h1 h2
  have hown : FOwn (w'.setCell ⟨gF, Q.length * 7 + 6, none⟩ v) B (.slice (some ⟨gF, 0, none⟩) (Q.length + 1) cap) (Q ++ [(hdf p.1 T, v)]) := by
    refine ⟨hrow2, fun q hqm => ?_, ?_⟩
    · rcases List.mem_append.1 hqm with h1 | h1
      · have h2 := H.own.tb q (List.mem_append_left _ h1)
        have h3 := h2.upd hp (fun k hk => hq q h1 k hk)
        exact h3.upd hg1 (fun k hk e => by subst e; exact h3.notF hbF (by decide) hk)
      · simp only [List.mem_singleton] at h1
        subst h1
        exact hv2
    · rw [List.pairwise_append]
      refine ⟨(List.pairwise_append.1 H.own.ap).1, List.pairwise_singleton _ _, fun q h1 r hr k h2 h3 => ?_⟩
      simp only [List.mem_singleton] at hr
      subst hr
      rcases hn k h3 with h4 | h4
      · exact hq q h1 k h2 h4
      · have := ((H.own.tb q (List.mem_append_left _ h1)).lies h2).2
        omega
  have hgb : ¬ p.2.ownBlock = some g := (H.own.tb p hpm).notF H.box (by decide)
  have hb : Blk (w'.setCell ⟨gF, Q.length * 7 + 6, none⟩ v) g 71 [.slice (some ⟨gF, 0, none⟩) (Q.length + 1) cap, .int .i64 m, .int .i64 h] :=
    (H.box.upd hp hgb).upd hg1 (fun e => by subst e; exact H.own.rowNe H.box (by decide) rfl)
  have hM : StM (w'.setCell ⟨gF, Q.length * 7 + 6, none⟩ v) B g (.slice (some ⟨gF, 0, none⟩) (Q.length + 1) cap) (Q ++ [(hdf p.1 T, v)]) m h :=
    ⟨hb, hown, H.bg, H.hm, by have := H.hl; simp at this ⊢; exact this, by have := H.hh; simp at this ⊢; exact this, fun q hq => by
      rcases List.mem_append.1 hq with hq | hq
      · exact H.rt q (List.mem_append_left _ hq)
      · simp only [List.mem_singleton] at hq
        subst hq
        exact hf⟩
  have hFp : ∀ k, p.2.ownBlock = some k → F k := fun k hk => hF k (.inr (.inr ⟨p, hpm, hk⟩))
  have hto := hM.to ((hu.trans hp (fun k _ e => hFp k e)).trans hg1 (fun k _ e => by subst e; exact hFg)) hB0 hFl (fun k hk => by
    rcases hk with hk | hk | ⟨q, hq, hk⟩
    · exact .inl (hF k (.inl hk))
    · exact .inl (hF k (.inr (.inl hk)))
    · rcases List.mem_append.1 hq with hq | hq
      · exact .inl (hF k (.inr (.inr ⟨q, List.mem_append_left _ hq, hk⟩)))
      · simp only [List.mem_singleton] at hq
        subst hq
        rcases hn k hk with h3 | h3
        · exact .inl (hFp k h3)
        · exact .inr (Nat.le_trans hu.size h3))
  rw [List.map_append] at hto
  exact hto
/-- What Mark answers. -/
def MarkTo (w : World) (B : Nat) (F : Nat → Prop) (g : Nat) (fs : List Fr) (m h : Int) (x : Int) (e : Ending) (w' : World) : Prop :=
  (fs = [] ∧ e = .returned (.int .i64 220) ∧ StkTo w B F w' g fs m h) ∨
  (fs ≠ [] ∧ posB x = false ∧ e = .returned (.int .i64 3) ∧ StkTo w B F w' g fs m h) ∨
  (fs ≠ [] ∧ posB x = true ∧ (lastT fs).length = 1048576 ∧ e = .returned (.int .i64 5) ∧ StkTo w B F w' g fs m h) ∨
  (∃ l y, fs = l ++ [y] ∧ posB x = true ∧ y.T.length < 1048576 ∧ e = .returned (.int .i64 0) ∧ StkTo w B F w' g (l ++ [hdf y (y.T ++ [x])]) m h)
set_option maxRecDepth 100000 in
set_option maxHeartbeats 16000000 in
theorem mark_any (w : World) (B : Nat) (F : Nat → Prop) (g : Nat) (fs : List Fr) (m h : Int) (x : Int) (hS : Hid (Stk w B F g fs m h)) (hBw : B ≤ w.heap.size) :
    Calls Try.prog 23 #[.pointer (some ⟨g, 0, none⟩), .int .i64 x] w fun e w' => MarkTo w B F g fs m h x e w' := by
  obtain ⟨v, P, hM, hP, hF, hFl⟩ := hS.out
  have HS := hS
  have HPm := hide_ hP
  have HF := hide_ hF
  have HFl := hide_ hFl
  clear hS hF hFl hP
  rcases List.eq_nil_or_concat P with rfl | ⟨Q, p, rfl⟩
  · obtain ⟨av, cv, rfl, -⟩ := hM.own.slice
    have HL := hide_ (last_nil g av cv _ _ w (hide_ hM.box))
    clear hM
    go_enter Try.func23, Try.ntmps23
    go_wp2_with (go_at_call 33; refine HL.out.mono ?_; rintro e w' ⟨rfl, rfl⟩)
    go_ret
    exact .inl ⟨HPm.out.symm, rfl, HS.out.same (Below.refl _ _)⟩
  · rw [List.concat_eq_append] at hM HPm HF
    obtain ⟨gF, cap, rfl, hn, hm, hbg, hlt, hc, hz, hbk⟩ := hM.own.last
    obtain ⟨f, pv⟩ := p
    have hpm : (f, pv) ∈ Q ++ [(f, pv)] := List.mem_append_right _ (List.mem_singleton.2 rfl)
    obtain ⟨at_, ct, hpv, hfa⟩ := (hM.own.tb (f, pv) hpm).fra
    have hpv' : pv = .slice at_ f.T.length ct := hpv
    subst hpv'
    have hrt := hM.rt _ hpm
    have hrt1 : f.T.length ≤ 1048576 := (frB_is hrt).1
    have HRt := hide_ hrt
    unfold maxLen at hm
    have HL := hide_ (last_some g gF Q.length cap _ _ w (by omega) (hide_ hM.box))
    have HE : Hid (lastT fs = f.T) := hide_ (by rw [← HPm.out, List.map_append]; exact lastT_app _ _)
    have HN : Hid (fs ≠ []) := hide_ (by rw [← HPm.out]; simp)
    have i6 := hc 6 (by decide)
    have y6 := hz (Q.length * 7 + 6)
    simp [frc] at i6
    have HM := hide_ hM
    have HPo := hide_ (pos_any x w.drew)
    have HBs : Hid (Below w.heap.size w w.drew) := hide_ (Below.refl _ _).drew
    clear hM hc hz hbk hfa hn hm hbg hlt hrt hpv
    cases hp : posB x with
    | false =>
      rw [hp] at HPo
      have HP := hide_ hp
      clear hp
      go_enter Try.func23, Try.ntmps23
      go_wp2_with (first | (go_at_call 33; refine HL.out.mono ?_; rintro e w' ⟨rfl, rfl⟩) | (go_at_call 38; refine HPo.out.mono ?_; rintro e w' ⟨rfl, rfl⟩))
      go_ret
      exact .inr (.inl ⟨HN.out, HP.out, rfl, HS.out.same HBs.out⟩)
    | true =>
      rw [hp] at HPo
      have HP := hide_ hp
      clear hp
      by_cases hl : f.T.length = 1048576
      · have HLn := hide_ hl
        have hl' : ((f.T.length : Int) == 1048576) = true := by rw [hl]; rfl
        clear hl
        go_enter Try.func23, Try.ntmps23
        go_wp2_with (first | (go_at_call 33; refine HL.out.mono ?_; rintro e w' ⟨rfl, rfl⟩) | (go_at_call 38; refine HPo.out.mono ?_; rintro e w' ⟨rfl, rfl⟩))
        go_ret
        exact .inr (.inr (.inl ⟨HN.out, HP.out, by rw [HE.out]; exact HLn.out, rfl, HS.out.same HBs.out⟩))
      · have hl' : ((f.T.length : Int) == 1048576) = false := by simp; omega
        have HLn : Hid (f.T.length < 1048576) := hide_ (by omega)
        clear hl
        have HMd := hide_ (HM.out.later HBs.out)
        obtain ⟨gT, capT, w4, hr, ho, hu, hgT⟩ := (HMd.out.own.tb _ hpm).push x (by show f.T.length ≤ _; omega) (by show B ≤ w.heap.size; exact hBw)
        have HR := hide_ hr
        have HO := hide_ ho
        have HU := hide_ hu
        have HG := hide_ hgT
        have hrow : w4.ownsRow B 39 7 (.slice (some ⟨gF, 0, none⟩) (Q.length + 1) cap) (Q ++ [(f, Value.slice at_ f.T.length ct)]).length (cellsG frc (Q ++ [(f, Value.slice at_ f.T.length ct)])) := ownS_upd HMd.out.own.row hu (fun k hk e => HMd.out.own.ne hpm e hk)
        obtain ⟨ys, hbF⟩ := ownS_type hrow (show (Value.slice (some ⟨gF, 0, none⟩) (Q.length + 1) cap).ownBlock = some gF from rfl)
        obtain ⟨g5, cap5, ys5, he5, -, -, -, -, ht5, hk5⟩ := ownS_blk hrow (by simp)
        injection he5 with he1 _ _
        injection he1 with he1
        injection he1 with he1 _ _
        subst he1
        have k6 := hk5.cell (Q.length * 7 + 6)
        have z6 := hk5.frozen (Q.length * 7 + 6)
        have e6 : ys5[Q.length * 7 + 6]? = some (.slice at_ f.T.length ct) := by
          have hx : (Q ++ [(f, Value.slice at_ f.T.length ct)])[Q.length]? = some (f, .slice at_ f.T.length ct) := by simp
          have h1 := cellsG_at frc_len _ Q.length 6 _ hx (by decide)
          rw [← ht5, List.getElem?_take, if_pos (by simp; omega)] at h1
          exact h1
        rw [e6] at k6
        clear hr ho hu hgT hrow hbF ht5 hk5 e6
        go_enter Try.func23, Try.ntmps23
        go_upto_region 8 with (first | (go_at_call 33; refine HL.out.mono ?_; rintro e w' ⟨rfl, rfl⟩) | (go_at_call 38; refine HPo.out.mono ?_; rintro e w' ⟨rfl, rfl⟩) | fail)
        go_wp2_with (first | (at_builtin; refine wpList_append_run rfl (.tmp 26) (.tmp 28) 37 37 rfl rfl rfl HR.out ?_) | fail)
        go_ret
        have h4 : frB (hdf f (f.T ++ [x])) = true := by
          obtain ⟨r1, r2, r3⟩ := frB_is HRt.out
          exact frB_of (by show (f.T ++ [x]).length ≤ _; have := HLn.out; simp; omega) (fun y hy => by
            rcases List.mem_append.1 (show y ∈ f.T ++ [x] from hy) with hy | hy
            · exact r2 y hy
            · simp only [List.mem_singleton] at hy
              subst hy
              exact HP.out) r3
        exact .inr (.inr (.inr ⟨Q.map (·.1), f, by rw [← HPm.out, List.map_append]; rfl, HP.out, HLn.out, rfl, HMd.out.markLast (Upd.of_below HBs.out) HF.out HFl.out hBw HU.out (f.T ++ [x]) (.slice (some ⟨gT, 0, none⟩) (f.T.length + 1) capT) HO.out (fun k hk => by
          have hk' : gT = k := own_is hk
          subst hk'
          exact HG.out) h4⟩))
end Go.Proofs.Ytcmkdkocponpiaa
