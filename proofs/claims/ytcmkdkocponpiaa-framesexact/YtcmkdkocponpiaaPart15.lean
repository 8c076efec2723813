import Derived.Test.YtcmkdkocponpiaaPart14

/- mortiselaw22: filled. -/
namespace Go.Proofs.Ytcmkdkocponpiaa
open Go.RowKit
set_option linter.unusedVariables false

/-- Frames that are handed in. -/
structure LRow (w : World) (a : Option Addr) (L : List (Fr × Value)) : Prop where
  row : GRow 7 frc w a L
  tb : ∀ p ∈ L, ∃ ap cp, p.2 = .slice ap p.1.T.length cp ∧ FrA w p.1 ap cp ∧ p.1.T.length ≤ cp ∧ cp ≤ 9223372036854775807
theorem LRow.later {w w' : World} {a : Option Addr} {L : List (Fr × Value)} (h : LRow w a L) (hB : Below w.heap.size w w') : LRow w' a L :=
  ⟨h.row.later hB, fun p hp => by
    obtain ⟨ap, cp, h1, h2, h3⟩ := h.tb p hp
    exact ⟨ap, cp, h1, h2.later hB, h3⟩⟩
theorem LRow.take {w : World} {a : Option Addr} {L : List (Fr × Value)} (h : LRow w a L) (m : Nat) : LRow w a (L.take m) := ⟨h.row.take m, fun p hp => h.tb p (List.mem_of_mem_take hp)⟩
theorem LRow.later_of {w w' : World} {a : Option Addr} {L : List (Fr × Value)} (h : LRow w a L) (hB : Below w.heap.size w w') : LRow w' a L := h.later hB
/-- The blocks of a list of frames. -/
def OwB (v : Value) (P : List (Fr × Value)) (k : Nat) : Prop := v.ownBlock = some k ∨ ∃ p ∈ P, p.2.ownBlock = some k
theorem FOwn.updO {w w' : World} {B : Nat} {v : Value} {P : List (Fr × Value)} {S : Nat → Prop} (h : FOwn w B v P) (hu : Upd S w w') (hs : ∀ k, OwB v P k → ¬ S k) : FOwn w' B v P :=
  h.upd hu (fun k hk => hs k (.inl hk)) (fun p hp k hk => hs k (.inr ⟨p, hp, hk⟩))
theorem FOwn.lies {w : World} {B : Nat} {v : Value} {P : List (Fr × Value)} (h : FOwn w B v P) {k : Nat} (hk : OwB v P k) : B ≤ k ∧ k < w.heap.size := by
  rcases hk with hk | ⟨p, hp, hk⟩
  · exact h.row.lt k hk
  · exact (h.tb p hp).lies hk
/-- A stack, and the same frames in a list of the statement's own, apart. -/
structure Two (w0 w : World) (F : Nat → Prop) (g : Nat) (v : Value) (P : List (Fr × Value)) (m h : Int) : Prop where
  st : Stk w w0.heap.size F g (P.map (·.1)) m h
  ow : FOwn w w0.heap.size v P
  ap : ∀ k, OwB v P k → ¬ F k
  bl : Below w0.heap.size w0 w
  sm : ∀ p ∈ P, p.1.T.length ≤ 300
theorem Two.later {w0 w w' : World} {F : Nat → Prop} {g : Nat} {v : Value} {P : List (Fr × Value)} {m h : Int} (H : Two w0 w F g v P m h) (hB : Below w.heap.size w w') : Two w0 w' F g v P m h :=
  ⟨H.st.later hB, H.ow.later hB, H.ap, below_to H.bl hB, H.sm⟩
theorem lenS {w : World} {B g : Nat} {F : Nat → Prop} {fs : List Fr} {m h z : Int} (hS : Stk w B F g fs m h) (hz : (fs.length : Int) = z) : Calls Try.prog 11 #[.pointer (some ⟨g, 0, none⟩)] w fun e w' => e = .returned (.int .i64 z) ∧ w = w' := by
  obtain ⟨v, P, hM, hP, -, -⟩ := hS
  obtain ⟨av, cv, rfl, -⟩ := hM.own.slice
  have hl : (P.length : Int) = z := by rw [← hz, ← hP, List.length_map]
  rw [← hl]
  exact len_any g av P.length cv _ _ w (hide_ hM.box)
theorem highS {w : World} {B g : Nat} {F : Nat → Prop} {fs : List Fr} {m h : Int} (hS : Stk w B F g fs m h) : Calls Try.prog 12 #[.pointer (some ⟨g, 0, none⟩)] w fun e w' => e = .returned (.int .i64 h) ∧ w = w' := by
  obtain ⟨v, P, hM, hP, -, -⟩ := hS
  exact high_any g _ _ h w (hide_ hM.box)
/-- What filled answers. -/
def FilTo (n : Nat) (w : World) (e : Ending) (w' : World) : Prop :=
  ∃ F g v P, e = .returned (.tuple #[.pointer (some ⟨g, 0, none⟩), v, .bool true]) ∧ P.length ≤ n ∧ Two w w' F g v P ((n : Int) + 1) (n : Int)
set_option maxRecDepth 100000 in
set_option maxHeartbeats 16000000 in
theorem filled_any (a : Option Addr) (c : Nat) (L : List (Fr × Value)) (gone : Int) (w : World) (hcap : L.length ≤ c) (hcm : c ≤ 9223372036854775807) (hL : Hid (LRow w a L)) :
    Calls Try.prog 7 #[.slice a L.length c, .int .i64 gone] w fun e w' => FilTo (L.take 40).length w e w' := by
  have hnb : (L.take 40).length ≤ 40 := by rw [List.length_take]; omega
  have HN1 : Hid (L.length ≤ 40 → (L.take 40).length = L.length) := hide_ (fun h => by rw [List.length_take]; omega)
  have HN2 : Hid (¬ L.length ≤ 40 → (L.take 40).length = 40) := hide_ (fun h => by rw [List.length_take]; omega)
  have HL := hide_ (hL.out.take 40)
  obtain ⟨L2, hL2⟩ : ∃ L2, L.take 40 = L2 := ⟨_, rfl⟩
  rw [hL2] at hnb HN1 HN2 HL
  rw [hL2]
  clear hL hL2
  go_enter Try.func7, Try.ntmps7
  go_upto_if 16 with fail
  go_cut [0] from 17 to 18 (fun x0 wc => x0 = .slice a L2.length c ∧ w = wc)
  case first =>
    by_cases hle : L.length ≤ 40
    · have hd : decide (40 < (L.length : Int)) = false := decide_eq_false (by omega)
      have HE := hide_ (HN1.out hle)
      go_wp2_with fail
      go_meet
      case rel => exact ⟨by rw [HE.out], rfl⟩
    · have hd : decide (40 < (L.length : Int)) = true := decide_eq_true (by omega)
      have hc40 : 40 ≤ c := by omega
      have hl40 : 40 ≤ L.length := by omega
      have HE := hide_ (HN2.out hle)
      go_wp2_with fail
      go_meet
      case rel => exact ⟨by rw [HE.out], rfl⟩
  case rest =>
  obtain ⟨rfl, rfl⟩ := hcut
  clear HN1 HN2
  have hwn := i64w ((L2.length : Int) + 1) (by omega)
  go_wp2_with fail
  refine (new_any ((L2.length : Int) + 1) w).mono ?_
  rintro e w1 (⟨hbad, -, -⟩ | ⟨-, -, F, rfl, hS1, hB1⟩)
  · exact absurd ⟨by omega, by omega⟩ hbad
  have HT1 : Hid (Two w w1 F w.heap.size (.slice none 0 0) [] ((L2.length : Int) + 1) 0) := hide_ ⟨hS1, FOwn.nil _ _, fun k hk => (by
    rcases hk with hk | ⟨p, hp, _⟩
    · cases hk
    · cases hp), hB1, fun p hp => by cases hp⟩
  have HNum : Hid (∀ w', Calls Try.prog 10 #[.int .i64 0] w' fun e w'' => e = .returned (.int .i64 0) ∧ w' = w'') := hide_ (fun w' => num_any 0 w')
  have HGs := hide_ (fun k => hS1.lt (k := k))
  clear hS1 hB1
  go_wp2_with (go_at_call 10; refine (HNum.out _).mono ?_; rintro e w' ⟨rfl, rfl⟩)
  go_loopw [9, 10] (fun x9 x10 wr => ∃ (F : Nat → Prop) (v : Value) (P : List (Fr × Value)), v = x9 ∧ P.length ≤ L2.length ∧ x10 = .int .i64 (P.length : Int) ∧ Hid (Two w wr F w.heap.size v P ((L2.length : Int) + 1) (P.length : Int))) (fun _ x10 _ => L2.length - (intOf x10).toNat)
  case atStart => exact ⟨F, _, [], rfl, Nat.zero_le _, rfl, HT1⟩
  case round =>
    clear HT1 HGs
    obtain ⟨F, v, P, rfl, hPn, rfl, HT⟩ := hrel
    generalize wr = wq at *
    obtain ⟨av, cv, rfl, -⟩ := HT.out.ow.slice
    by_cases hlt : P.length < L2.length
    · have hlt' : (P.length : Int) < L2.length := by omega
      have HLq := hide_ (HL.out.later_of HT.out.bl)
      have hx : L2[P.length]? = some (L2[P.length]'hlt) := List.getElem?_eq_getElem hlt
      obtain ⟨p, hp⟩ : ∃ p, L2[P.length]'hlt = p := ⟨_, rfl⟩
      rw [hp] at hx
      obtain ⟨f, pv⟩ := p
      obtain ⟨at_, ct, hpv, hfa, hct, hcm2⟩ := HLq.out.tb (f, pv) (List.mem_of_getElem? hx)
      have hpv' : pv = .slice at_ f.T.length ct := hpv
      subst hpv'
      obtain ⟨bl, ol, rfl, -, hcl⟩ := HLq.out.row.open (show 0 < L2.length by omega)
      have hcx := hcl P.length _ hx
      have i0 := hcx 0 (by decide); have i1 := hcx 1 (by decide); have i2 := hcx 2 (by decide); have i3 := hcx 3 (by decide); have i4 := hcx 4 (by decide); have i5 := hcx 5 (by decide); have i6 := hcx 6 (by decide)
      simp [frc] at i0 i1 i2 i3 i4 i5 i6
      have HRg := hide_ (rgt_any f at_ ct wq (hide_ hfa) hct hcm2)
      clear hp hx hpv hfa hct hcm2 hcl hcx
      go_wp2_with fail
      refine HRg.out.mono ?_
      rintro e w2 ⟨a2, c2, rfl, HI2, HB2⟩
      have hT2 := HT.out.later HB2.out
      have HOk := hide_ (rgt_ok f)
      have HSm : Hid ((rgt f).T.length ≤ 300) := hide_ (by simp only [rgt, List.length_map, List.length_take]; omega)
      obtain ⟨R, hR⟩ : ∃ R, rgt f = R := ⟨_, rfl⟩
      rw [hR] at HI2 HOk HSm
      rw [hR]
      have HTl : Hid (∀ p ∈ P, ∀ k, p.2.ownBlock = some k → k < wq.heap.size) := hide_ (fun p hp k hk => ((HT.out.ow.tb p hp).lies hk).2)
      obtain ⟨gO, capO, w3, hr, ho, hu, hgO⟩ := hT2.ow.push R (own_base HI2.out HT.out.bl.size) (fun p hp k hk h2 => by
        have h3 := HTl.out p hp k hk
        have h4 : wq.heap.size ≤ k := (HI2.out.lies h2).1
        omega) (by omega) hT2.bl.size
      have hS3 : Stk w3 w.heap.size F w.heap.size (P.map (·.1)) ((L2.length : Int) + 1) (P.length : Int) := hT2.st.upd hu (fun k hk e => hT2.ap k (.inl e) hk)
      have hb23 : Below w.heap.size w2 w3 := hu.below w.heap.size hT2.bl.size (fun k hk => (hT2.ow.row.lt k hk).1)
      have hb3 : Below w.heap.size w w3 := hT2.bl.trans hb23
      have hap3 : ∀ k, OwB (.slice (some ⟨gO, 0, none⟩) (P.length + 1) capO) (P ++ [(R, .slice a2 R.T.length c2)]) k → ¬ F k := fun k hk hF => by
        have hFl := (HT.out.st.lt hF).2
        have hs2 : wq.heap.size ≤ w2.heap.size := HB2.out.size
        rcases hk with hk | ⟨p, hp, hk⟩
        · have hk' : gO = k := own_is hk
          subst hk'
          rcases hgO with h1 | h1
          · exact hT2.ap gO (.inl h1) hF
          · omega
        · rcases List.mem_append.1 hp with hp | hp
          · exact hT2.ap k (.inr ⟨p, hp, hk⟩) hF
          · simp only [List.mem_singleton] at hp
            subst hp
            have h4 : wq.heap.size ≤ k := (HI2.out.lies hk).1
            omega
      have HAp := hide_ hr
      have HO3 := hide_ ho
      have HS3 := hide_ hS3
      have HB3 := hide_ hb3
      have HA3 := hide_ hap3
      obtain ⟨gF, capF, he, -, -, -, -, hcc, -, -⟩ := ho.last
      injection he with he1 he2 he3
      injection he1 with he1
      injection he1 with he1 _ _
      subst he1
      have k0 := hcc 0 (by decide); have k1 := hcc 1 (by decide); have k2 := hcc 2 (by decide); have k3 := hcc 3 (by decide); have k4 := hcc 4 (by decide); have k5 := hcc 5 (by decide); have k6 := hcc 6 (by decide)
      simp only [frc] at k0 k1 k2 k3 k4 k5 k6
      simp at k0 k1 k2 k3 k4 k5 k6
      obtain ⟨a9, c9, h9, hfa3⟩ := (ho.tb (R, .slice a2 R.T.length c2) (List.mem_append_right _ (List.mem_singleton.2 rfl))).fra
      have h9' : Value.slice a2 R.T.length c2 = .slice a9 R.T.length c9 := h9
      injection h9' with h91 _ h93
      subst h91 h93
      have HFa3 := hide_ hfa3
      have HPush := hide_ (push_any w3 w.heap.size F w.heap.size (P.map (·.1)) ((L2.length : Int) + 1) (P.length : Int) R a2 c2 HS3 (hide_ hfa3) hb3.size)
      have hwp := i64w ((P.length : Int) + 1) (by omega)
      clear hT2 hR hr ho hu hgO hS3 hb23 hb3 hap3 hcc he2 he3 h9 hfa3 i0 i1 i2 i3 i4 i5 i6
      go_wp2_with (first | (at_builtin; refine wpList_append_run rfl (.tmp 39) (.tmp 45) 22 22 rfl rfl rfl HAp.out ?_) | fail)
      refine HPush.out.mono ?_
      rintro e w4 (⟨hbad, -, -⟩ | ⟨-, hbad, -, -⟩ | ⟨-, -, rfl, hto⟩)
      · exfalso
        rw [List.length_map] at hbad
        omega
      · rw [HOk.out] at hbad
        cases hbad
      obtain ⟨F4, hS4, hU4, hF4⟩ := hto
      have hmx : max (P.length : Int) (((P.map (·.1)).length : Int) + 1) = (P.length : Int) + 1 := by rw [List.length_map]; omega
      rw [hmx] at hS4
      have HLen := hide_ (lenS hS4 (z := (P.length : Int) + 1) (by simp))
      have HHi := hide_ (highS hS4)
      have hT4 : Two w w4 F4 w.heap.size (.slice (some ⟨gO, 0, none⟩) (P.length + 1) capO) (P ++ [(R, .slice a2 R.T.length c2)]) ((L2.length : Int) + 1) ((P ++ [(R, Value.slice a2 R.T.length c2)]).length : Int) := by
        refine ⟨?_, HO3.out.updO hU4 HA3.out, fun k hk hF => ?_, HB3.out.trans (hU4.below w.heap.size HB3.out.size (fun k hk => (HS3.out.lt hk).1)), fun p hp => ?_⟩
        · rw [List.map_append, List.length_append, List.length_singleton, Int.natCast_add]
          exact hS4
        · rcases hF4 k hF with h1 | h1
          · exact HA3.out k hk h1
          · have := (HO3.out.lies hk).2
            omega
        · rcases List.mem_append.1 hp with hp | hp
          · exact HT.out.sm p hp
          · simp only [List.mem_singleton] at hp
            subst hp
            exact HSm.out
      have HT4 := hide_ hT4
      clear hmx hS4 hU4 hF4 hT4 k0 k1 k2 k3 k4 k5 k6
      go_wp2_with (first | (go_at_call 10; refine (HNum.out _).mono ?_; rintro e w' ⟨rfl, rfl⟩) | (go_at_call 11; refine HLen.out.mono ?_; rintro e w' ⟨rfl, rfl⟩) | (go_at_call 12; refine HHi.out.mono ?_; rintro e w' ⟨rfl, rfl⟩))
      go_roundw
      case rel => exact ⟨F4, _, P ++ [(R, .slice a2 R.T.length c2)], rfl, by simp; omega, by simp, HT4⟩
      case measure => simp [intOf]; omega
    · have HEq : Hid (P.length = L2.length) := hide_ (by omega)
      have hlt' : ¬ ((P.length : Int) < L2.length) := by omega
      have HT2 : Hid (Two w wq F w.heap.size (.slice av P.length cv) P ((L2.length : Int) + 1) (L2.length : Int)) := hide_ (by
        have h := HT.out
        have e : (P.length : Int) = L2.length := by rw [HEq.out]
        rw [e] at h
        exact h)
      have hrr := restP_in (n := gone) (m := (L2.length : Int) + 1) (by omega)
      have HRs := hide_ (rest_any gone ((L2.length : Int) + 1) wq (by omega) (by omega))
      obtain ⟨r, hr⟩ : ∃ r : Nat, restP gone ((L2.length : Int) + 1) = (r : Int) := ⟨(restP gone ((L2.length : Int) + 1)).toNat, by omega⟩
      rw [hr] at hrr HRs
      have hrn : r ≤ L2.length := by omega
      clear hlt hr hrr HT
      go_wp2_with (go_at_call 13; refine HRs.out.mono ?_; rintro e w' ⟨rfl, rfl⟩)
      have HRel : Hid (P.length + r = L2.length + r) := hide_ (by rw [HEq.out])
      go_loopw [9, 11] (fun x9 x11 wr => ∃ (j : Nat) (F : Nat → Prop) (v : Value) (P : List (Fr × Value)), v = x9 ∧ j ≤ r ∧ x11 = .int .i64 (j : Int) ∧ Hid (P.length + r = L2.length + j) ∧ Hid (Two w wr F w.heap.size v P ((L2.length : Int) + 1) (L2.length : Int))) (fun _ x11 _ => (intOf x11).toNat)
      case atStart => exact ⟨r, F, _, P, rfl, Nat.le_refl _, rfl, HRel, HT2⟩
      case round =>
        clear HT2 HRel HEq
        obtain ⟨j, F, v, P, rfl, hj, rfl, HJ, HT⟩ := hrel
        generalize wr = wk at *
        by_cases hj0 : 0 < j
        · have hj0' : (0 : Int) < j := by omega
          rcases List.eq_nil_or_concat P with rfl | ⟨Q, p, rfl⟩
          · exfalso
            have := HJ.out
            simp at this
            omega
          rw [List.concat_eq_append] at HT HJ
          have HQ : Hid (Q.length + r = L2.length + (j - 1)) := hide_ (by have := HJ.out; simp at this; omega)
          obtain ⟨gO, capO, rfl, hqc, hcm2, -, -, -, -, -⟩ := HT.out.ow.last
          unfold maxLen at hcm2
          obtain ⟨f, pv⟩ := p
          have HPop := hide_ (pop_any wk w.heap.size F w.heap.size ((Q ++ [(f, pv)]).map (·.1)) ((L2.length : Int) + 1) (L2.length : Int) (hide_ HT.out.st) HT.out.bl.size)
          go_wp2_with fail
          refine HPop.out.mono ?_
          rintro e w1' (⟨hbad, -, -, -⟩ | ⟨l, f', a2, c2, hfs, rfl, HI1, HS1, HU1⟩)
          · exfalso
            simp at hbad
          have hfs2 : l = Q.map (·.1) ∧ f' = f := by
            rw [List.map_append] at hfs
            have h1 := List.append_inj' hfs rfl
            exact ⟨h1.1.symm, by have := h1.2; simp at this; exact this.symm⟩
          obtain ⟨rfl, rfl⟩ := hfs2
          have ho1 := HT.out.ow.updO HU1.out HT.out.ap
          have hb1 := HT.out.bl.trans (HU1.out.below w.heap.size HT.out.bl.size (fun k hk => (HT.out.st.lt hk).1))
          obtain ⟨w2, hw2⟩ : ∃ w2, w2 = w1'.alloc (.cells #[.int .i64 f'.r, .int .i64 f'.a, .int .i64 f'.b, .int .i64 f'.e, .int .i64 f'.n, .int .i64 f'.x, .slice a2 f'.T.length c2] 39) := ⟨_, rfl⟩
          have hB2 : Below w1'.heap.size w1' w2 := by rw [hw2]; exact below1 _ _
          have kb : Blk w2 w1'.heap.size 39 (frc (f', .slice a2 f'.T.length c2)) := by rw [hw2]; exact Blk.newA w1' _ _
          have HKb := hide_ kb
          have HO2 := hide_ (ho1.later hB2)
          have HS2 := hide_ (HS1.out.later hB2)
          have HB2 := hide_ (below_to hb1 hB2)
          have HI2 := hide_ (HI1.out.later hB2)
          have HApt := hide_ HT.out.ap
          have HSmT := hide_ HT.out.sm
          have hsz2 : w.heap.size ≤ w2.heap.size := HB2.out.size
          obtain ⟨a9, c9, h9, hfa9⟩ := (HO2.out.tb (f', pv) (List.mem_append_right _ (List.mem_singleton.2 rfl))).fra
          have h9' : pv = .slice a9 f'.T.length c9 := h9
          subst h9'
          have HFa9 := hide_ hfa9
          obtain ⟨a8, c8, h8, hfa8⟩ := HI2.out.fra
          injection h8 with h81 _ h83
          subst h81 h83
          have HFa8 := hide_ hfa8
          have HCl : Hid (∀ w', Below w2.heap.size w2 w' → (fun w' => w'.cell? ⟨w1'.heap.size, 0, none⟩ = some (.int .i64 f'.r) ∧ w'.cell? ⟨w1'.heap.size, 1, none⟩ = some (.int .i64 f'.a) ∧ w'.cell? ⟨w1'.heap.size, 2, none⟩ = some (.int .i64 f'.b) ∧ w'.cell? ⟨w1'.heap.size, 3, none⟩ = some (.int .i64 f'.e) ∧ w'.cell? ⟨w1'.heap.size, 4, none⟩ = some (.int .i64 f'.n) ∧ w'.cell? ⟨w1'.heap.size, 5, none⟩ = some (.int .i64 f'.x) ∧ w'.cell? ⟨w1'.heap.size, 6, none⟩ = some (.slice a2 f'.T.length c2) ∧ w'.cell? ⟨gO, Q.length * 7, none⟩ = some (.int .i64 f'.r) ∧ w'.cell? ⟨gO, Q.length * 7 + 1, none⟩ = some (.int .i64 f'.a) ∧ w'.cell? ⟨gO, Q.length * 7 + 2, none⟩ = some (.int .i64 f'.b) ∧ w'.cell? ⟨gO, Q.length * 7 + 3, none⟩ = some (.int .i64 f'.e) ∧ w'.cell? ⟨gO, Q.length * 7 + 4, none⟩ = some (.int .i64 f'.n) ∧ w'.cell? ⟨gO, Q.length * 7 + 5, none⟩ = some (.int .i64 f'.x) ∧ w'.cell? ⟨gO, Q.length * 7 + 6, none⟩ = some (.slice a9 f'.T.length c9)) w') := hide_ (fun w' hb => by
            have k := HKb.out.later hb
            obtain ⟨gF, capF, he, -, -, -, -, hcc, -, -⟩ := (HO2.out.later hb).last
            injection he with he1 he2 he3
            injection he1 with he1
            injection he1 with he1 _ _
            subst he1
            exact ⟨k.cell 0, k.cell 1, k.cell 2, k.cell 3, k.cell 4, k.cell 5, k.cell 6, hcc 0 (by decide), hcc 1 (by decide), hcc 2 (by decide), hcc 3 (by decide), hcc 4 (by decide), hcc 5 (by decide), hcc 6 (by decide)⟩)
          have HSame := hide_ (same_yes f' a2 a9 c2 c9 w2.drew (hide_ ⟨HFa8.out.1.drew, HFa8.out.2⟩) (hide_ ⟨HFa9.out.1.drew, HFa9.out.2⟩))
          have hqi := i64w (Q.length : Int) (by omega)
          have hqlt : (Q.length : Int) < (Q.length : Int) + 1 := by omega
          have HTn : Hid (∀ w', Below w2.heap.size w2 w' → Two w w' F w.heap.size (.slice (some ⟨gO, 0, none⟩) Q.length capO) Q ((L2.length : Int) + 1) (L2.length : Int)) := hide_ (fun w' hb => ⟨HS2.out.later hb, (HO2.out.later hb).init, fun k hk hF => by
            refine HApt.out k ?_ hF
            rcases hk with hk | ⟨q, hq, hk⟩
            · exact .inl hk
            · exact .inr ⟨q, List.mem_append_left _ hq, hk⟩, below_to HB2.out hb, fun p hp => HSmT.out p (List.mem_append_left _ hp)⟩)
          have hqc' : Q.length ≤ capO := by omega
          clear hfs ho1 hb1 hB2 kb h9 hfa9 hfa8 HT HPop hqc
          go_upto_region 17 with fail
          rw [← hw2]
          clear hw2
          refine wp_region_last 13 (fun w' => w'.cell? ⟨w1'.heap.size, 0, none⟩ = some (.int .i64 f'.r) ∧ w'.cell? ⟨w1'.heap.size, 1, none⟩ = some (.int .i64 f'.a) ∧ w'.cell? ⟨w1'.heap.size, 2, none⟩ = some (.int .i64 f'.b) ∧ w'.cell? ⟨w1'.heap.size, 3, none⟩ = some (.int .i64 f'.e) ∧ w'.cell? ⟨w1'.heap.size, 4, none⟩ = some (.int .i64 f'.n) ∧ w'.cell? ⟨w1'.heap.size, 5, none⟩ = some (.int .i64 f'.x) ∧ w'.cell? ⟨w1'.heap.size, 6, none⟩ = some (.slice a2 f'.T.length c2) ∧ w'.cell? ⟨gO, Q.length * 7, none⟩ = some (.int .i64 f'.r) ∧ w'.cell? ⟨gO, Q.length * 7 + 1, none⟩ = some (.int .i64 f'.a) ∧ w'.cell? ⟨gO, Q.length * 7 + 2, none⟩ = some (.int .i64 f'.b) ∧ w'.cell? ⟨gO, Q.length * 7 + 3, none⟩ = some (.int .i64 f'.e) ∧ w'.cell? ⟨gO, Q.length * 7 + 4, none⟩ = some (.int .i64 f'.n) ∧ w'.cell? ⟨gO, Q.length * 7 + 5, none⟩ = some (.int .i64 f'.x) ∧ w'.cell? ⟨gO, Q.length * 7 + 6, none⟩ = some (.slice a9 f'.T.length c9)) (by kernel_rfl) (HCl.out _ ((Below.refl w2.heap.size w2).drew)) (fun hHeld => ?_)
          refine wpAnyF_take [13, 3, 1] (by kernel_rfl) (i := 0) (v := ?vf1) rfl (by kernel_rfl) (by kernel_rfl) (by kernel_rfl) (fun _ _ _ h => h) (Or.inl ⟨by kernel_rfl, ?hyf1⟩) hHeld ?restf1
          case hyf1 => intro w' hSw; (try dsimp only at hSw); go_simp; try with_reducible rfl
          simp only [Act.put]
          try dsimp only
          refine wpAnyF_takeC [13, 3] (by kernel_rfl) (i := 1) (v := .int .i64 0) rfl (by kernel_rfl) (by kernel_rfl) (by kernel_rfl) (fun _ _ _ h => h) ⟨by kernel_rfl, _, #[.int .i64 0], fun w' hSw => ⟨by (try dsimp only at hSw); go_simp; try rfl, HNum.out w'⟩⟩ hHeld ?_
          simp only [Act.put]
          try dsimp only
          refine wpAnyF_take [13, 3] (by kernel_rfl) (i := 2) (v := ?vf2) rfl (by kernel_rfl) (by kernel_rfl) (by kernel_rfl) (fun _ _ _ h => h) (Or.inl ⟨by kernel_rfl, ?hyf2⟩) hHeld ?restf2
          case hyf2 => intro w' hSw; (try dsimp only at hSw); go_simp; try with_reducible rfl
          simp only [Act.put]
          try dsimp only
          refine wpAnyF_take [13] (by kernel_rfl) (i := 3) (v := ?vf3) rfl (by kernel_rfl) (by kernel_rfl) (by kernel_rfl) (fun _ _ _ h => h) (Or.inl ⟨by kernel_rfl, ?hyf3⟩) hHeld ?restf3
          case hyf3 => intro w' hSw; (try dsimp only at hSw); go_simp; try with_reducible rfl
          simp only [Act.put]
          try dsimp only
          refine wpAnyF_take [13, 12, 11] (by kernel_rfl) (i := 4) (v := ?vf4) rfl (by kernel_rfl) (by kernel_rfl) (by kernel_rfl) (fun _ _ _ h => h) (Or.inl ⟨by kernel_rfl, ?hyf4⟩) hHeld ?restf4
          case hyf4 => intro w' hSw; (try dsimp only at hSw); go_simp; try with_reducible rfl
          simp only [Act.put]
          try dsimp only
          refine wpAnyF_take [13, 12, 11, 10, 9] (by kernel_rfl) (i := 5) (v := ?vf5) rfl (by kernel_rfl) (by kernel_rfl) (by kernel_rfl) (fun _ _ _ h => h) (Or.inl ⟨by kernel_rfl, ?hyf5⟩) hHeld ?restf5
          case hyf5 => intro w' hSw; (try dsimp only at hSw); go_simp; try with_reducible rfl
          simp only [Act.put]
          try dsimp only
          refine wpAnyF_take [13, 12, 11, 10, 9, 8, 7] (by kernel_rfl) (i := 6) (v := ?vf6) rfl (by kernel_rfl) (by kernel_rfl) (by kernel_rfl) (fun _ _ _ h => h) (Or.inl ⟨by kernel_rfl, ?hyf6⟩) hHeld ?restf6
          case hyf6 => intro w' hSw; (try dsimp only at hSw); go_simp; try with_reducible rfl
          simp only [Act.put]
          try dsimp only
          refine wpAnyF_take [13, 12, 11, 10, 9, 8] (by kernel_rfl) (i := 7) (v := ?vf7) rfl (by kernel_rfl) (by kernel_rfl) (by kernel_rfl) (fun _ _ _ h => h) (Or.inl ⟨by kernel_rfl, ?hyf7⟩) hHeld ?restf7
          case hyf7 => intro w' hSw; (try dsimp only at hSw); go_simp; try with_reducible rfl
          simp only [Act.put]
          try dsimp only
          refine wpAnyF_take [13, 12, 11, 10, 9] (by kernel_rfl) (i := 8) (v := ?vf8) rfl (by kernel_rfl) (by kernel_rfl) (by kernel_rfl) (fun _ _ _ h => h) (Or.inl ⟨by kernel_rfl, ?hyf8⟩) hHeld ?restf8
          case hyf8 => intro w' hSw; (try dsimp only at hSw); go_simp; try with_reducible rfl
          simp only [Act.put]
          try dsimp only
          refine wpAnyF_take [13, 12, 11, 10] (by kernel_rfl) (i := 9) (v := ?vf9) rfl (by kernel_rfl) (by kernel_rfl) (by kernel_rfl) (fun _ _ _ h => h) (Or.inl ⟨by kernel_rfl, ?hyf9⟩) hHeld ?restf9
          case hyf9 => intro w' hSw; (try dsimp only at hSw); go_simp; try with_reducible rfl
          simp only [Act.put]
          try dsimp only
          refine wpAnyF_take [13, 12, 11] (by kernel_rfl) (i := 10) (v := ?vf10) rfl (by kernel_rfl) (by kernel_rfl) (by kernel_rfl) (fun _ _ _ h => h) (Or.inl ⟨by kernel_rfl, ?hyf10⟩) hHeld ?restf10
          case hyf10 => intro w' hSw; (try dsimp only at hSw); go_simp; try with_reducible rfl
          simp only [Act.put]
          try dsimp only
          refine wpAnyF_ready (rs := [11]) (by kernel_rfl) (by simp) ?_
          refine AllReadyF.cons rfl (fun K hK => ?_) AllReadyF.nil
          go_simp
          refine HSame.out.mono ?_
          rintro e w3 ⟨rfl, hB3⟩
          have hBs : Below w2.heap.size w2 w3 := below_to ((Below.refl w2.heap.size w2).drew) hB3
          clear hB3
          dsimp only
          refine hK.out _ _ (HCl.out _ hBs) (fun hHeld => ?_)
          clear hK K
          refine wpAnyF_take [13] (by kernel_rfl) (i := 12) (v := ?vf11) rfl (by kernel_rfl) (by kernel_rfl) (by kernel_rfl) (fun _ _ _ h => h) (Or.inl ⟨by kernel_rfl, ?hyf11⟩) hHeld ?restf11
          case hyf11 => intro w' hSw; (try dsimp only at hSw); go_simp; try with_reducible rfl
          simp only [Act.put]
          try dsimp only
          refine wpAnyF_ready (rs := [13]) (by kernel_rfl) (by simp) ?_
          refine AllReadyF.last rfl (fun K hK => ?_)
          go_simp
          refine hK.out _ _ ?_
          clear hK K
          refine wpAnyF_done (by kernel_rfl) ?_ _
          have HB3 := hide_ hBs
          clear hBs
          go_wp2_with fail
          have hjw := i64w ((j : Int) - 1) (by omega)
          have hwj : ((j : Int) - 1) = ((j - 1 : Nat) : Int) := by omega
          go_wp2_with fail
          go_roundw
          case rel => exact ⟨j - 1, F, _, Q, rfl, by omega, by rw [← hwj], HQ, HTn.out _ HB3.out⟩
          case measure => simp [intOf]; omega
        · have hj0' : ¬ ((0 : Int) < j) := by omega
          have HLen := hide_ (lenS HT.out.st (z := (P.length : Int)) (by simp))
          have HHi := hide_ (highS HT.out.st)
          obtain ⟨av2, cv2, rfl, -⟩ := HT.out.ow.slice
          go_wp2_with (first | (go_at_call 11; refine HLen.out.mono ?_; rintro e w' ⟨rfl, rfl⟩) | (go_at_call 12; refine HHi.out.mono ?_; rintro e w' ⟨rfl, rfl⟩))
          go_ret3
          exact ⟨F, w.heap.size, _, P, rfl, by have := HJ.out; omega, HT.out⟩
end Go.Proofs.Ytcmkdkocponpiaa

/- mortiseref22: its stacks in memory; in, New, Len, High. -/
namespace Go.Proofs.Ytcmkdkocponpiaa
open Go.RowKit
set_option linter.unusedVariables false

/-- A stack lies at g. -/
structure RSt (w : World) (B g : Nat) (v : Value) (P : List (Fr × Value)) (m h : Int) : Prop where
  box : Blk w g 95 [v, .int .i64 m, .int .i64 h]
  own : FOwn w B v P
  bg : B ≤ g
  hm : 1 ≤ m ∧ m ≤ 1048576
  hl : (P.length : Int) ≤ m
  hh : (P.length : Int) ≤ h ∧ h ≤ m
  rt : ∀ p ∈ P, frB p.1 = true
/-- A stack of these frames lies at g, within the blocks F. -/
def RSk (w : World) (B : Nat) (F : Nat → Prop) (g : Nat) (fs : List Fr) (m h : Int) : Prop :=
  ∃ v P, RSt w B g v P m h ∧ P.map (·.1) = fs ∧ (∀ k, skB g v P k → F k) ∧ ∀ k, F k → B ≤ k ∧ k < w.heap.size
theorem RSt.upd {w w' : World} {B g : Nat} {v : Value} {P : List (Fr × Value)} {m h : Int} {S : Nat → Prop} (H : RSt w B g v P m h) (hu : Upd S w w') (hs : ∀ k, skB g v P k → ¬ S k) : RSt w' B g v P m h :=
  ⟨H.box.upd hu (hs g (.inl rfl)), H.own.upd hu (fun k hk => hs k (.inr (.inl hk))) (fun p hp k hk => hs k (.inr (.inr ⟨p, hp, hk⟩))), H.bg, H.hm, H.hl, H.hh, H.rt⟩
theorem RSt.lies {w : World} {B g : Nat} {v : Value} {P : List (Fr × Value)} {m h : Int} (H : RSt w B g v P m h) {k : Nat} (hk : skB g v P k) : B ≤ k ∧ k < w.heap.size := by
  rcases hk with rfl | hk | ⟨p, hp, hk⟩
  · exact ⟨H.bg, H.box.lt⟩
  · exact H.own.row.lt k hk
  · exact (H.own.tb p hp).lies hk
theorem RSt.later {w w' : World} {B g : Nat} {v : Value} {P : List (Fr × Value)} {m h : Int} (H : RSt w B g v P m h) (hB : Below w.heap.size w w') : RSt w' B g v P m h :=
  H.upd (Upd.of_below (S := fun _ => False) hB) (fun _ _ h => h)
theorem RSk.upd {w w' : World} {B g : Nat} {F S : Nat → Prop} {fs : List Fr} {m h : Int} (H : RSk w B F g fs m h) (hu : Upd S w w') (hs : ∀ k, F k → ¬ S k) : RSk w' B F g fs m h := by
  obtain ⟨v, P, h1, h2, h3, h4⟩ := H
  exact ⟨v, P, h1.upd hu (fun k hk => hs k (h3 k hk)), h2, h3, fun k hk => ⟨(h4 k hk).1, Nat.lt_of_lt_of_le (h4 k hk).2 hu.size⟩⟩
theorem RSk.later {w w' : World} {B g : Nat} {F : Nat → Prop} {fs : List Fr} {m h : Int} (H : RSk w B F g fs m h) (hB : Below w.heap.size w w') : RSk w' B F g fs m h :=
  H.upd (Upd.of_below (S := fun _ => False) hB) (fun _ _ h => h)
theorem RSk.lt {w : World} {B g : Nat} {F : Nat → Prop} {fs : List Fr} {m h : Int} (H : RSk w B F g fs m h) {k : Nat} (hk : F k) : B ≤ k ∧ k < w.heap.size := by
  obtain ⟨v, P, h1, h2, h3, h4⟩ := H
  exact h4 k hk
theorem RSk.base {w : World} {B B' g : Nat} {F : Nat → Prop} {fs : List Fr} {m h : Int} (H : RSk w B F g fs m h) (hb : B' ≤ B) : RSk w B' F g fs m h := by
  obtain ⟨v, P, h1, h2, h3, h4⟩ := H
  exact ⟨v, P, ⟨h1.box, ⟨own_base h1.own.row hb, fun p hp => own_base (h1.own.tb p hp) hb, h1.own.ap⟩, Nat.le_trans hb h1.bg, h1.hm, h1.hl, h1.hh, h1.rt⟩, h2, h3, fun k hk => ⟨Nat.le_trans hb (h4 k hk).1, (h4 k hk).2⟩⟩
/-- A call may have changed the stack. -/
def RSkTo (w : World) (B : Nat) (F : Nat → Prop) (w' : World) (g : Nat) (fs : List Fr) (m h : Int) : Prop :=
  ∃ F', RSk w' B F' g fs m h ∧ Upd F w w' ∧ ∀ k, F' k → F k ∨ w.heap.size ≤ k
theorem RSk.same {w w' : World} {B g : Nat} {F : Nat → Prop} {fs : List Fr} {m h : Int} (H : RSk w B F g fs m h) (hB : Below w.heap.size w w') : RSkTo w B F w' g fs m h :=
  ⟨F, H.later hB, Upd.of_below hB, fun k hk => .inl hk⟩
theorem RSkTo.to {w w1 w2 : World} {B g : Nat} {F : Nat → Prop} {fs : List Fr} {m h : Int} (H : RSkTo w1 B F w2 g fs m h) (hB : Below w.heap.size w w1) : RSkTo w B F w2 g fs m h := by
  obtain ⟨F', h1, h2, h3⟩ := H
  exact ⟨F', h1, (Upd.of_below hB).to h2, fun k hk => (h3 k hk).imp id (fun h => Nat.le_trans hB.size h)⟩
theorem RSkTo.then {w w1 w2 : World} {B g : Nat} {F : Nat → Prop} {fs : List Fr} {m h : Int} (H : RSkTo w B F w1 g fs m h) (hB : Below w1.heap.size w1 w2) : RSkTo w B F w2 g fs m h := by
  obtain ⟨F', h1, h2, h3⟩ := H
  exact ⟨F', h1.later hB, h2.then hB, h3⟩
/-- What a stack in memory is made of, seen from a changed one. -/
theorem RSt.to {w w' : World} {B g : Nat} {F : Nat → Prop} {v : Value} {P : List (Fr × Value)} {m h : Int} (H : RSt w' B g v P m h) (hu : Upd F w w') (hB : B ≤ w.heap.size) (hF : ∀ k, F k → B ≤ k ∧ k < w.heap.size) (hk : ∀ k, skB g v P k → F k ∨ w.heap.size ≤ k) : RSkTo w B F w' g (P.map (·.1)) m h := by
  refine ⟨fun k => skB g v P k, ⟨v, P, H, rfl, fun k h => h, fun k h => H.lies h⟩, hu, hk⟩
set_option maxRecDepth 100000 in
set_option maxHeartbeats 4000000 in
theorem rlen_any (g : Nat) (a : Option Addr) (n c : Nat) (x y : Value) (w : World) (hb : Hid (Blk w g 95 [.slice a n c, x, y])) :
    Calls Try.prog 42 #[.pointer (some ⟨g, 0, none⟩)] w fun e w' => e = .returned (.int .i64 (n : Int)) ∧ w = w' := by
  have q0 := hb.out.cell 0
  simp at q0
  go_enter Try.func42, Try.ntmps42
  go_wp2
  go_ret
  exact ⟨rfl, rfl⟩
set_option maxRecDepth 100000 in
set_option maxHeartbeats 4000000 in
theorem rhigh_any (g : Nat) (x y : Value) (h : Int) (w : World) (hb : Hid (Blk w g 95 [x, y, .int .i64 h])) :
    Calls Try.prog 43 #[.pointer (some ⟨g, 0, none⟩)] w fun e w' => e = .returned (.int .i64 h) ∧ w = w' := by
  have q0 := hb.out.cell 2
  simp at q0
  go_enter Try.func43, Try.ntmps43
  go_wp2
  go_ret
  exact ⟨rfl, rfl⟩
theorem rlenS {w : World} {B g : Nat} {F : Nat → Prop} {fs : List Fr} {m h z : Int} (hS : RSk w B F g fs m h) (hz : (fs.length : Int) = z) : Calls Try.prog 42 #[.pointer (some ⟨g, 0, none⟩)] w fun e w' => e = .returned (.int .i64 z) ∧ w = w' := by
  obtain ⟨v, P, hM, hP, -, -⟩ := hS
  obtain ⟨av, cv, rfl, -⟩ := hM.own.slice
  have hl : (P.length : Int) = z := by rw [← hz, ← hP, List.length_map]
  rw [← hl]
  exact rlen_any g av P.length cv _ _ w (hide_ hM.box)
theorem rhighS {w : World} {B g : Nat} {F : Nat → Prop} {fs : List Fr} {m h : Int} (hS : RSk w B F g fs m h) : Calls Try.prog 43 #[.pointer (some ⟨g, 0, none⟩)] w fun e w' => e = .returned (.int .i64 h) ∧ w = w' := by
  obtain ⟨v, P, hM, hP, -, -⟩ := hS
  exact rhigh_any g _ _ h w (hide_ hM.box)
def inB (n lo hi : Int) : Bool := decide (lo ≤ n) && decide (n ≤ hi)
set_option maxRecDepth 100000 in
set_option maxHeartbeats 4000000 in
theorem in_any (n lo hi : Int) (w : World) : Calls Try.prog 53 #[.int .i64 n, .int .i64 lo, .int .i64 hi] w fun e w' => e = .returned (.bool (inB n lo hi)) ∧ w = w' := by
  go_enter Try.func53, Try.ntmps53
  by_cases h1 : lo ≤ n
  · by_cases h2 : n ≤ hi
    · have e : inB n lo hi = true := by simp [inB, h1, h2]
      rw [e]
      clear e
      have d1 := decide_eq_true h1
      have d2 := decide_eq_true h2
      go_wp2
      go_ret
      exact ⟨rfl, rfl⟩
    · have e : inB n lo hi = false := by simp [inB, h1, h2]
      rw [e]
      clear e
      have d1 := decide_eq_true h1
      have d2 := decide_eq_false h2
      go_wp2
      go_ret
      exact ⟨rfl, rfl⟩
  · have e : inB n lo hi = false := by simp [inB, h1]
    rw [e]
    clear e
    have d1 := decide_eq_false h1
    go_wp2
    go_ret
    exact ⟨rfl, rfl⟩
theorem inB_pos (n : Int) : inB n 0 4611686018427387904 = posB n := rfl
theorem inB_pon (n : Int) : inB n (-1) 4611686018427387904 = ponB n := Bool.eq_iff_iff.2 (by simp [inB, ponB, posB]; omega)
/-- What New answers. -/
def RNewTo (m : Int) (w : World) (e : Ending) (w' : World) : Prop :=
  (¬ (1 ≤ m ∧ m ≤ 1048576) ∧ e = .returned (.tuple #[.pointer none, .int .i64 3]) ∧ w = w') ∨
  (1 ≤ m ∧ m ≤ 1048576 ∧ ∃ F, e = .returned (.tuple #[.pointer (some ⟨w.heap.size, 0, none⟩), .int .i64 0]) ∧ RSk w' w.heap.size F w.heap.size [] m 0 ∧ Below w.heap.size w w')
set_option maxRecDepth 100000 in
set_option maxHeartbeats 4000000 in
theorem rnew_any (m : Int) (w : World) : Calls Try.prog 39 #[.int .i64 m] w fun e w' => RNewTo m w e w' := by
  by_cases h1 : 1 ≤ m ∧ m ≤ 1048576
  · have hI : Hid (Calls Try.prog 53 #[.int .i64 m, .int .i64 1, .int .i64 1048576] w fun e w' => e = .returned (.bool true) ∧ w = w') := hide_ (by
      have h := in_any m 1 1048576 w
      have e : inB m 1 1048576 = true := by simp [inB, h1.1, h1.2]
      rw [e] at h
      exact h)
    have HH := hide_ h1
    clear h1
    go_enter Try.func39, Try.ntmps39
    go_wp2_with (go_at_call 53; refine hI.out.mono ?_; rintro e w' ⟨rfl, rfl⟩)
    go_ret2
    obtain ⟨h1, h2⟩ := HH.out
    refine .inr ⟨h1, h2, fun k => k = w.heap.size, rfl, ⟨.slice none 0 0, [], ⟨Blk.newA w _ _, FOwn.nil _ _, Nat.le_refl _, ⟨by omega, by omega⟩, by simp; omega, ⟨by simp, by omega⟩, fun p hp => (by cases hp)⟩, rfl, ?_, ?_⟩, below1 _ _⟩
    · rintro k (h | h | ⟨p, hp, _⟩)
      · exact h
      · cases h
      · cases hp
    · rintro k rfl
      exact ⟨Nat.le_refl _, (Blk.newA w _ _).lt⟩
  · have hI : Hid (Calls Try.prog 53 #[.int .i64 m, .int .i64 1, .int .i64 1048576] w fun e w' => e = .returned (.bool false) ∧ w = w') := hide_ (by
      have h := in_any m 1 1048576 w
      have e : inB m 1 1048576 = false := by
        unfold inB
        by_cases h2 : 1 ≤ m
        · have h3 : ¬ m ≤ 1048576 := fun h => h1 ⟨h2, h⟩
          simp [h3]
        · simp [h2]
      rw [e] at h
      exact h)
    have HH := hide_ h1
    clear h1
    go_enter Try.func39, Try.ntmps39
    go_wp2_with (go_at_call 53; refine hI.out.mono ?_; rintro e w' ⟨rfl, rfl⟩)
    go_ret2
    exact .inl ⟨HH.out, rfl, rfl⟩
end Go.Proofs.Ytcmkdkocponpiaa

/- mortiseref22: Right. -/
namespace Go.Proofs.Ytcmkdkocponpiaa
open Go.RowKit
set_option linter.unusedVariables false

set_option maxRecDepth 100000 in
set_option maxHeartbeats 16000000 in
theorem rright_any (f : Fr) (a : Option Addr) (c : Nat) (w : World) (hA : Hid (FrA w f a c)) :
    Calls Try.prog 73 #[.agg #[.int .i64 f.r, .int .i64 f.a, .int .i64 f.b, .int .i64 f.e, .int .i64 f.n, .int .i64 f.x, .slice a f.T.length c]] w fun e w' => e = .returned (.bool (frB f)) ∧ Below w.heap.size w w' := by
  obtain ⟨w1, hw1⟩ : ∃ wx, wx = w.alloc (.cells #[.int .i64 f.r, .int .i64 f.a, .int .i64 f.b, .int .i64 f.e, .int .i64 f.n, .int .i64 f.x, .slice a f.T.length c] 39) := ⟨_, rfl⟩
  have hB1 : Below w.heap.size w w1 := by rw [hw1]; exact below1 _ _
  have k1 : Blk w1 w.heap.size 39 (frc (f, .slice a f.T.length c)) := by rw [hw1]; exact Blk.newA w _ _
  have HA1 := hide_ (hA.out.later hB1)
  have HB1 := hide_ hB1
  have hmx := hA.out.2.2
  unfold maxLen at hmx
  clear hA hB1
  have j0 := k1.cell 0; have j1 := k1.cell 1; have j2 := k1.cell 2; have j3 := k1.cell 3; have j4 := k1.cell 4; have j5 := k1.cell 5; have j6 := k1.cell 6
  simp [frc] at j0 j1 j2 j3 j4 j5 j6
  clear k1
  have HPos : Hid (∀ n, Calls Try.prog 53 #[.int .i64 n, .int .i64 0, .int .i64 4611686018427387904] w1 fun e w' => e = .returned (.bool (posB n)) ∧ w1 = w') := hide_ (fun n => in_any n 0 4611686018427387904 w1)
  have HPon : Hid (∀ n, Calls Try.prog 53 #[.int .i64 n, .int .i64 (-1), .int .i64 4611686018427387904] w1 fun e w' => e = .returned (.bool (ponB n)) ∧ w1 = w') := hide_ (fun n => by rw [← inB_pon]; exact in_any n (-1) 4611686018427387904 w1)
  obtain ⟨T, hT⟩ : ∃ T, f.T = T := ⟨_, rfl⟩
  have HTe := hide_ hT
  rw [hT] at j6 hmx ⊢
  have HRw : Hid (Row .i64 w1 a T) := hide_ (by rw [← hT]; exact HA1.out.1)
  rw [hT] at hw1
  have HFr : Hid (frB f = (decide (T.length ≤ 1048576) && T.all posB && (posB f.r && posB f.a && posB f.b && ponB f.e && ponB f.n && posB f.x))) := hide_ (by unfold frB hdB; rw [hT])
  clear hT HA1
  go_enter Try.func73, Try.ntmps73
  go_upto_region 1 with fail
  rw [← hw1]
  clear hw1
  have HQ0 := HPos.out f.r
  generalize posB f.r = b0 at HQ0 HFr
  cases b0 with
  | false =>
    have HQ0 := hide_ HQ0
    go_wp2_with (first | (go_at_call_of 53 (Value.int .i64 f.r); refine HQ0.out.mono ?_; rintro e w' ⟨rfl, rfl⟩))
    go_ret
    exact ⟨by rw [HFr.out]; simp, HB1.out⟩
  | true =>
  have HQ0 := hide_ HQ0
  have HQ1 := HPos.out f.a
  generalize posB f.a = b1 at HQ1 HFr
  cases b1 with
  | false =>
    have HQ1 := hide_ HQ1
    go_wp2_with (first | (go_at_call_of 53 (Value.int .i64 f.r); refine HQ0.out.mono ?_; rintro e w' ⟨rfl, rfl⟩) | (go_at_call_of 53 (Value.int .i64 f.a); refine HQ1.out.mono ?_; rintro e w' ⟨rfl, rfl⟩))
    go_ret
    exact ⟨by rw [HFr.out]; simp, HB1.out⟩
  | true =>
  have HQ1 := hide_ HQ1
  have HQ2 := HPos.out f.b
  generalize posB f.b = b2 at HQ2 HFr
  cases b2 with
  | false =>
    have HQ2 := hide_ HQ2
    go_wp2_with (first | (go_at_call_of 53 (Value.int .i64 f.r); refine HQ0.out.mono ?_; rintro e w' ⟨rfl, rfl⟩) | (go_at_call_of 53 (Value.int .i64 f.a); refine HQ1.out.mono ?_; rintro e w' ⟨rfl, rfl⟩) | (go_at_call_of 53 (Value.int .i64 f.b); refine HQ2.out.mono ?_; rintro e w' ⟨rfl, rfl⟩))
    go_ret
    exact ⟨by rw [HFr.out]; simp, HB1.out⟩
  | true =>
  have HQ2 := hide_ HQ2
  have HQ3 := HPos.out f.x
  generalize posB f.x = b3 at HQ3 HFr
  cases b3 with
  | false =>
    have HQ3 := hide_ HQ3
    go_wp2_with (first | (go_at_call_of 53 (Value.int .i64 f.r); refine HQ0.out.mono ?_; rintro e w' ⟨rfl, rfl⟩) | (go_at_call_of 53 (Value.int .i64 f.a); refine HQ1.out.mono ?_; rintro e w' ⟨rfl, rfl⟩) | (go_at_call_of 53 (Value.int .i64 f.b); refine HQ2.out.mono ?_; rintro e w' ⟨rfl, rfl⟩) | (go_at_call_of 53 (Value.int .i64 f.x); refine HQ3.out.mono ?_; rintro e w' ⟨rfl, rfl⟩))
    go_ret
    exact ⟨by rw [HFr.out]; simp, HB1.out⟩
  | true =>
  have HQ3 := hide_ HQ3
  have HQ4 := HPon.out f.e
  generalize ponB f.e = b4 at HQ4 HFr
  cases b4 with
  | false =>
    have HQ4 := hide_ HQ4
    go_wp2_with (first | (go_at_call_of 53 (Value.int .i64 f.r); refine HQ0.out.mono ?_; rintro e w' ⟨rfl, rfl⟩) | (go_at_call_of 53 (Value.int .i64 f.a); refine HQ1.out.mono ?_; rintro e w' ⟨rfl, rfl⟩) | (go_at_call_of 53 (Value.int .i64 f.b); refine HQ2.out.mono ?_; rintro e w' ⟨rfl, rfl⟩) | (go_at_call_of 53 (Value.int .i64 f.x); refine HQ3.out.mono ?_; rintro e w' ⟨rfl, rfl⟩) | (go_at_call_of 53 (Value.int .i64 f.e); refine HQ4.out.mono ?_; rintro e w' ⟨rfl, rfl⟩))
    go_ret
    exact ⟨by rw [HFr.out]; simp, HB1.out⟩
  | true =>
  have HQ4 := hide_ HQ4
  have HQ5 := HPon.out f.n
  generalize ponB f.n = b5 at HQ5 HFr
  cases b5 with
  | false =>
    have HQ5 := hide_ HQ5
    go_wp2_with (first | (go_at_call_of 53 (Value.int .i64 f.r); refine HQ0.out.mono ?_; rintro e w' ⟨rfl, rfl⟩) | (go_at_call_of 53 (Value.int .i64 f.a); refine HQ1.out.mono ?_; rintro e w' ⟨rfl, rfl⟩) | (go_at_call_of 53 (Value.int .i64 f.b); refine HQ2.out.mono ?_; rintro e w' ⟨rfl, rfl⟩) | (go_at_call_of 53 (Value.int .i64 f.x); refine HQ3.out.mono ?_; rintro e w' ⟨rfl, rfl⟩) | (go_at_call_of 53 (Value.int .i64 f.e); refine HQ4.out.mono ?_; rintro e w' ⟨rfl, rfl⟩) | (go_at_call_of 53 (Value.int .i64 f.n); refine HQ5.out.mono ?_; rintro e w' ⟨rfl, rfl⟩))
    go_ret
    exact ⟨by rw [HFr.out]; simp, HB1.out⟩
  | true =>
  have HQ5 := hide_ HQ5
  by_cases hlen : T.length ≤ 1048576
  · have hd : decide (1048576 < (T.length : Int)) = false := decide_eq_false (by omega)
    have HL := hide_ hlen
    go_wp2_with (first | (go_at_call_of 53 (Value.int .i64 f.r); refine HQ0.out.mono ?_; rintro e w' ⟨rfl, rfl⟩) | (go_at_call_of 53 (Value.int .i64 f.a); refine HQ1.out.mono ?_; rintro e w' ⟨rfl, rfl⟩) | (go_at_call_of 53 (Value.int .i64 f.b); refine HQ2.out.mono ?_; rintro e w' ⟨rfl, rfl⟩) | (go_at_call_of 53 (Value.int .i64 f.x); refine HQ3.out.mono ?_; rintro e w' ⟨rfl, rfl⟩) | (go_at_call_of 53 (Value.int .i64 f.e); refine HQ4.out.mono ?_; rintro e w' ⟨rfl, rfl⟩) | (go_at_call_of 53 (Value.int .i64 f.n); refine HQ5.out.mono ?_; rintro e w' ⟨rfl, rfl⟩))
    go_loop [2, 3] (fun x2 x3 => ∃ i : Nat, i ≤ T.length ∧ x3 = .int .i64 (i : Int) ∧ Hid (∀ y ∈ T.take i, posB y = true)) (fun _ x3 => T.length - (intOf x3).toNat)
    case atStart => exact ⟨0, Nat.zero_le _, rfl, hide_ (by simp)⟩
    case round =>
      obtain ⟨i, hi, rfl, HI⟩ := hrel
      by_cases hlt : i < T.length
      · have hlt' : (i : Int) < T.length := by omega
        obtain ⟨b, o, rfl, hbw, hc⟩ := HRw.out.open (by omega)
        have hcell := hc i hlt
        obtain ⟨y, hy⟩ : ∃ y, T.getD i 0 = y := ⟨_, rfl⟩
        have HY : Hid (T.take (i + 1) = T.take i ++ [y]) := hide_ (by rw [List.take_add_one, List.getElem?_eq_getElem hlt, ← hy]; simp [List.getD, hlt])
        have HM : Hid (y ∈ T) := hide_ (by rw [← hy]; simp [List.getD, hlt])
        rw [hy] at hcell
        clear hy hc
        have HPy := HPos.out y
        cases hp : posB y with
        | true =>
          rw [hp] at HPy
          have HPy := hide_ HPy
          have HP := hide_ hp
          clear hp
          go_wp2_with (go_at_call 53; refine HPy.out.mono ?_; rintro e w' ⟨rfl, rfl⟩)
          go_round
          case rel => exact ⟨i + 1, by omega, by go_num, hide_ (by rw [HY.out]; intro z hz; rcases List.mem_append.1 hz with hz | hz; exact HI.out z hz; simp at hz; subst hz; exact HP.out)⟩
          case measure => simp [intOf]; omega
        | false =>
          rw [hp] at HPy
          have HPy := hide_ HPy
          have HP := hide_ hp
          clear hp
          go_wp2_with (go_at_call 53; refine HPy.out.mono ?_; rintro e w' ⟨rfl, rfl⟩)
          go_ret
          refine ⟨?_, HB1.out⟩
          have hn : T.all posB = false := by
            cases ha : T.all posB with
            | false => rfl
            | true => have := List.all_eq_true.1 ha y HM.out; rw [HP.out] at this; cases this
          rw [HFr.out, hn]
          simp
      · obtain rfl : i = T.length := by omega
        have HAll : Hid (T.all posB = true) := hide_ (by have := HI.out; rw [List.take_length] at this; exact List.all_eq_true.2 this)
        go_wp2_with fail
        go_ret
        exact ⟨by rw [HFr.out, HAll.out]; simp [HL.out], HB1.out⟩
  · have hd : decide (1048576 < (T.length : Int)) = true := decide_eq_true (by omega)
    have HL := hide_ hlen
    go_wp2_with (first | (go_at_call_of 53 (Value.int .i64 f.r); refine HQ0.out.mono ?_; rintro e w' ⟨rfl, rfl⟩) | (go_at_call_of 53 (Value.int .i64 f.a); refine HQ1.out.mono ?_; rintro e w' ⟨rfl, rfl⟩) | (go_at_call_of 53 (Value.int .i64 f.b); refine HQ2.out.mono ?_; rintro e w' ⟨rfl, rfl⟩) | (go_at_call_of 53 (Value.int .i64 f.x); refine HQ3.out.mono ?_; rintro e w' ⟨rfl, rfl⟩) | (go_at_call_of 53 (Value.int .i64 f.e); refine HQ4.out.mono ?_; rintro e w' ⟨rfl, rfl⟩) | (go_at_call_of 53 (Value.int .i64 f.n); refine HQ5.out.mono ?_; rintro e w' ⟨rfl, rfl⟩))
    go_ret
    exact ⟨by rw [HFr.out]; simp [HL.out], HB1.out⟩
end Go.Proofs.Ytcmkdkocponpiaa

/- mortiseref22: Slots, Top. -/
namespace Go.Proofs.Ytcmkdkocponpiaa
open Go.RowKit
set_option linter.unusedVariables false

set_option maxRecDepth 100000 in
set_option maxHeartbeats 16000000 in
theorem rslots_any (w : World) (B : Nat) (F : Nat → Prop) (g : Nat) (fs : List Fr) (m h : Int) (hS : Hid (RSk w B F g fs m h)) :
    Calls Try.prog 65 #[.pointer (some ⟨g, 0, none⟩)] w fun e w' => e = .returned (.int .i64 ((lastT fs).length : Int)) ∧ Below w.heap.size w w' := by
  obtain ⟨v, P, hM, hP, hF, hFl⟩ := hS.out
  have HPm := hide_ hP
  clear hS hF hFl hP
  rcases List.eq_nil_or_concat P with rfl | ⟨Q, p, rfl⟩
  · obtain ⟨av, cv, rfl, -⟩ := hM.own.slice
    have HE : Hid ((lastT fs).length = 0) := hide_ (by rw [← HPm.out]; rfl)
    rw [HE.out]
    have q0 := hM.box.cell 0
    simp at q0
    clear hM
    go_enter Try.func65, Try.ntmps65
    go_wp2_with fail
    go_ret
    exact ⟨rfl, Below.refl _ _⟩
  · rw [List.concat_eq_append] at hM HPm
    obtain ⟨gF, cap, rfl, hn, hm, hbg, hlt, hc, hz, hbk⟩ := hM.own.last
    obtain ⟨f, pv⟩ := p
    obtain ⟨at_, ct, hpv, hfa⟩ := (hM.own.tb (f, pv) (List.mem_append_right _ (List.mem_singleton.2 rfl))).fra
    have hpv' : pv = .slice at_ f.T.length ct := hpv
    subst hpv'
    unfold maxLen at hm
    have HE : Hid (lastT fs = f.T) := hide_ (by rw [← HPm.out, List.map_append]; exact lastT_app _ _)
    rw [HE.out]
    have i6 := hc 6 (by decide)
    simp [frc] at i6
    have hql : (Q ++ [(f, Value.slice at_ f.T.length ct)]).length = Q.length + 1 := by simp
    have q0 := hM.box.cell 0
    simp at q0
    have hqi := i64w (Q.length : Int) (by omega)
    have hq0 : ((Q.length : Int) + 1 == 0) = false := by simp; omega
    have hqlt : (Q.length : Int) < (Q.length : Int) + 1 := by omega
    clear hM hc hz hbk hfa hn hm hbg hlt hql
    go_enter Try.func65, Try.ntmps65
    go_wp2_with fail
    go_region
    go_wp2_with fail
    go_ret
    exact ⟨rfl, (Below.refl _ _).drew⟩
end Go.Proofs.Ytcmkdkocponpiaa

/- mortiseref22: Top. -/
namespace Go.Proofs.Ytcmkdkocponpiaa
open Go.RowKit
set_option linter.unusedVariables false

set_option maxRecDepth 100000 in
set_option maxHeartbeats 16000000 in
theorem rtop_any (w : World) (B : Nat) (F : Nat → Prop) (g : Nat) (fs : List Fr) (m h : Int) (hS : Hid (RSk w B F g fs m h)) :
    Calls Try.prog 63 #[.pointer (some ⟨g, 0, none⟩)] w fun e w' => TopTo w fs e w' := by
  obtain ⟨v, P, hM, hP, hF, hFl⟩ := hS.out
  obtain ⟨wa, hwa⟩ : ∃ wx, wx = w.alloc (.cells #[.int .i64 0, .int .i64 0, .int .i64 0, .int .i64 0, .int .i64 0, .int .i64 0, .slice none 0 0] 39) := ⟨_, rfl⟩
  have hB : Below w.heap.size w wa := by rw [hwa]; exact below1 _ _
  have k1 : Blk wa w.heap.size 39 (frc frz) := by rw [hwa]; exact Blk.newA w _ _
  have HB := hide_ hB
  have HGW : Hid (∀ k, skB g v P k → k < w.heap.size) := hide_ (fun k hk => (hFl k (hF k hk)).2)
  have hM1 := hM.later hB
  have HPm := hide_ hP
  clear hS hF hFl hM hB hP
  rcases List.eq_nil_or_concat P with rfl | ⟨Q, p, rfl⟩
  · obtain ⟨av, cv, rfl, -⟩ := hM1.own.slice
    have q0 := hM1.box.cell 0
    have l0 := k1.cell 0; have l1 := k1.cell 1; have l2 := k1.cell 2; have l3 := k1.cell 3; have l4 := k1.cell 4; have l5 := k1.cell 5; have l6 := k1.cell 6
    have y0 := k1.frozen 0; have y1 := k1.frozen 1; have y2 := k1.frozen 2; have y3 := k1.frozen 3; have y4 := k1.frozen 4; have y5 := k1.frozen 5; have y6 := k1.frozen 6
    simp [frc, frz, fr0] at q0 l0 l1 l2 l3 l4 l5 l6
    have HK := hide_ k1
    clear k1 hM1
    go_enter Try.func63, Try.ntmps63
    go_upto_region 1 with fail
    rw [← hwa]
    clear hwa
    go_wp2_with fail
    rw [z7]
    refine retFu rfl fr0 _ rfl rfl (HK.out.set7 fr0 (.slice none 0 0)) ?_
    rw [fag0]
    exact .inl ⟨HPm.out.symm, rfl, below7 HB.out _ _ _ _ (Nat.le_refl _)⟩
  · rw [List.concat_eq_append] at hM1 HPm HGW
    obtain ⟨gF, cap, rfl, hn, hm, hbg, hlt, hc, hz, hbk⟩ := hM1.own.last
    obtain ⟨f, pv⟩ := p
    obtain ⟨at_, ct, hpv, hfa⟩ := (hM1.own.tb (f, pv) (List.mem_append_right _ (List.mem_singleton.2 rfl))).fra
    have hpv' : pv = .slice at_ f.T.length ct := hpv
    subst hpv'
    have hrt := (frB_is (hM1.rt (f, .slice at_ f.T.length ct) (List.mem_append_right _ (List.mem_singleton.2 rfl)))).1
    have hrt' : f.T.length ≤ 1048576 := hrt
    unfold maxLen at hm
    have HM := hide_ hM1
    have HCe : Hid (∀ w', RSt w' B g (.slice (some ⟨gF, 0, none⟩) (Q.length + 1) cap) (Q ++ [(f, .slice at_ f.T.length ct)]) m h → (fun w' => w'.cell? ⟨g, 0, none⟩ = some (.slice (some ⟨gF, 0, none⟩) (Q.length + 1) cap) ∧ w'.cell? ⟨gF, Q.length * 7, none⟩ = some (.int .i64 f.r) ∧ w'.cell? ⟨gF, Q.length * 7 + 1, none⟩ = some (.int .i64 f.a) ∧ w'.cell? ⟨gF, Q.length * 7 + 2, none⟩ = some (.int .i64 f.b) ∧ w'.cell? ⟨gF, Q.length * 7 + 3, none⟩ = some (.int .i64 f.e) ∧ w'.cell? ⟨gF, Q.length * 7 + 4, none⟩ = some (.int .i64 f.n) ∧ w'.cell? ⟨gF, Q.length * 7 + 5, none⟩ = some (.int .i64 f.x) ∧ w'.cell? ⟨gF, Q.length * 7 + 6, none⟩ = some (.slice at_ f.T.length ct)) w') := hide_ (fun w' hm' => by
      obtain ⟨gF', cap', e, -, -, -, -, hc', -, -⟩ := hm'.own.last
      injection e with e1 _ _
      injection e1 with e1
      injection e1 with e1 _ _
      subst e1
      have i0 := hc' 0 (by decide); have i1 := hc' 1 (by decide); have i2 := hc' 2 (by decide); have i3 := hc' 3 (by decide); have i4 := hc' 4 (by decide); have i5 := hc' 5 (by decide); have i6 := hc' 6 (by decide)
      exact ⟨hm'.box.cell 0, i0, i1, i2, i3, i4, i5, i6⟩)
    have HCl : Hid (∀ w', Below wa.heap.size wa w' → (fun w' => w'.cell? ⟨g, 0, none⟩ = some (.slice (some ⟨gF, 0, none⟩) (Q.length + 1) cap) ∧ w'.cell? ⟨gF, Q.length * 7, none⟩ = some (.int .i64 f.r) ∧ w'.cell? ⟨gF, Q.length * 7 + 1, none⟩ = some (.int .i64 f.a) ∧ w'.cell? ⟨gF, Q.length * 7 + 2, none⟩ = some (.int .i64 f.b) ∧ w'.cell? ⟨gF, Q.length * 7 + 3, none⟩ = some (.int .i64 f.e) ∧ w'.cell? ⟨gF, Q.length * 7 + 4, none⟩ = some (.int .i64 f.n) ∧ w'.cell? ⟨gF, Q.length * 7 + 5, none⟩ = some (.int .i64 f.x) ∧ w'.cell? ⟨gF, Q.length * 7 + 6, none⟩ = some (.slice at_ f.T.length ct)) w') := hide_ (fun w' hb => HCe.out w' (HM.out.later hb))
    have hq0 : ((Q.length : Int) + 1 == 0) = false := by simp; omega
    have hqi := i64w (Q.length : Int) (by omega)
    have hqlt : (Q.length : Int) < (Q.length : Int) + 1 := by omega
    have q0 := hM1.box.cell 0
    simp at q0
    have HC := hide_ (own_any f at_ ct wa.drew (hide_ ⟨hfa.1.drew, hfa.2⟩) (by omega))
    have HK := hide_ k1
    clear k1 hM1 hc hz hbk hfa hrt hrt' hn hm hbg hlt
    go_enter Try.func63, Try.ntmps63
    go_upto_region 1 with fail
    rw [← hwa]
    clear hwa
    go_upto_region 3 with fail
    refine wp_region_last 14 (fun w' => w'.cell? ⟨g, 0, none⟩ = some (.slice (some ⟨gF, 0, none⟩) (Q.length + 1) cap) ∧ w'.cell? ⟨gF, Q.length * 7, none⟩ = some (.int .i64 f.r) ∧ w'.cell? ⟨gF, Q.length * 7 + 1, none⟩ = some (.int .i64 f.a) ∧ w'.cell? ⟨gF, Q.length * 7 + 2, none⟩ = some (.int .i64 f.b) ∧ w'.cell? ⟨gF, Q.length * 7 + 3, none⟩ = some (.int .i64 f.e) ∧ w'.cell? ⟨gF, Q.length * 7 + 4, none⟩ = some (.int .i64 f.n) ∧ w'.cell? ⟨gF, Q.length * 7 + 5, none⟩ = some (.int .i64 f.x) ∧ w'.cell? ⟨gF, Q.length * 7 + 6, none⟩ = some (.slice at_ f.T.length ct)) (by kernel_rfl) (HCl.out _ ((Below.refl wa.heap.size wa).drew)) (fun hHeld => ?_)
    refine wpAnyF_take [14] (by kernel_rfl) (i := 0) (v := ?vf1) rfl (by kernel_rfl) (by kernel_rfl) (by kernel_rfl) (fun _ _ _ h => h) (Or.inl ⟨by kernel_rfl, ?hyf1⟩) hHeld ?restf1
    case hyf1 => intro w' hSw; (try dsimp only at hSw); go_simp; try with_reducible rfl
    simp only [Act.put]
    try dsimp only
    refine wpAnyF_take [14] (by kernel_rfl) (i := 1) (v := ?vf2) rfl (by kernel_rfl) (by kernel_rfl) (by kernel_rfl) (fun _ _ _ h => h) (Or.inl ⟨by kernel_rfl, ?hyf2⟩) hHeld ?restf2
    case hyf2 => intro w' hSw; (try dsimp only at hSw); go_simp; try with_reducible rfl
    simp only [Act.put]
    try dsimp only
    refine wpAnyF_take [14] (by kernel_rfl) (i := 2) (v := ?vf3) rfl (by kernel_rfl) (by kernel_rfl) (by kernel_rfl) (fun _ _ _ h => h) (Or.inl ⟨by kernel_rfl, ?hyf3⟩) hHeld ?restf3
    case hyf3 => intro w' hSw; (try dsimp only at hSw); go_simp; try with_reducible rfl
    simp only [Act.put]
    try dsimp only
    refine wpAnyF_take [14] (by kernel_rfl) (i := 3) (v := ?vf4) rfl (by kernel_rfl) (by kernel_rfl) (by kernel_rfl) (fun _ _ _ h => h) (Or.inl ⟨by kernel_rfl, ?hyf4⟩) hHeld ?restf4
    case hyf4 => intro w' hSw; (try dsimp only at hSw); go_simp; try with_reducible rfl
    simp only [Act.put]
    try dsimp only
    refine wpAnyF_take [14] (by kernel_rfl) (i := 4) (v := ?vf5) rfl (by kernel_rfl) (by kernel_rfl) (by kernel_rfl) (fun _ _ _ h => h) (Or.inl ⟨by kernel_rfl, ?hyf5⟩) hHeld ?restf5
    case hyf5 => intro w' hSw; (try dsimp only at hSw); go_simp; try with_reducible rfl
    simp only [Act.put]
    try dsimp only
    refine wpAnyF_take [14] (by kernel_rfl) (i := 5) (v := ?vf6) rfl (by kernel_rfl) (by kernel_rfl) (by kernel_rfl) (fun _ _ _ h => h) (Or.inl ⟨by kernel_rfl, ?hyf6⟩) hHeld ?restf6
    case hyf6 => intro w' hSw; (try dsimp only at hSw); go_simp; try with_reducible rfl
    simp only [Act.put]
    try dsimp only
    refine wpAnyF_take [14] (by kernel_rfl) (i := 6) (v := ?vf7) rfl (by kernel_rfl) (by kernel_rfl) (by kernel_rfl) (fun _ _ _ h => h) (Or.inl ⟨by kernel_rfl, ?hyf7⟩) hHeld ?restf7
    case hyf7 => intro w' hSw; (try dsimp only at hSw); go_simp; try with_reducible rfl
    simp only [Act.put]
    try dsimp only
    refine wpAnyF_take [14] (by kernel_rfl) (i := 7) (v := ?vf8) rfl (by kernel_rfl) (by kernel_rfl) (by kernel_rfl) (fun _ _ _ h => h) (Or.inl ⟨by kernel_rfl, ?hyf8⟩) hHeld ?restf8
    case hyf8 => intro w' hSw; (try dsimp only at hSw); go_simp; try with_reducible rfl
    simp only [Act.put]
    try dsimp only
    refine wpAnyF_take [14] (by kernel_rfl) (i := 8) (v := ?vf9) rfl (by kernel_rfl) (by kernel_rfl) (by kernel_rfl) (fun _ _ _ h => h) (Or.inl ⟨by kernel_rfl, ?hyf9⟩) hHeld ?restf9
    case hyf9 => intro w' hSw; (try dsimp only at hSw); go_simp; try with_reducible rfl
    simp only [Act.put]
    try dsimp only
    refine wpAnyF_take [14] (by kernel_rfl) (i := 9) (v := ?vf10) rfl (by kernel_rfl) (by kernel_rfl) (by kernel_rfl) (fun _ _ _ h => h) (Or.inl ⟨by kernel_rfl, ?hyf10⟩) hHeld ?restf10
    case hyf10 => intro w' hSw; (try dsimp only at hSw); go_simp; try with_reducible rfl
    simp only [Act.put]
    try dsimp only
    refine wpAnyF_take [14] (by kernel_rfl) (i := 10) (v := ?vf11) rfl (by kernel_rfl) (by kernel_rfl) (by kernel_rfl) (fun _ _ _ h => h) (Or.inl ⟨by kernel_rfl, ?hyf11⟩) hHeld ?restf11
    case hyf11 => intro w' hSw; (try dsimp only at hSw); go_simp; try with_reducible rfl
    simp only [Act.put]
    try dsimp only
    refine wpAnyF_take [14] (by kernel_rfl) (i := 11) (v := ?vf12) rfl (by kernel_rfl) (by kernel_rfl) (by kernel_rfl) (fun _ _ _ h => h) (Or.inl ⟨by kernel_rfl, ?hyf12⟩) hHeld ?restf12
    case hyf12 => intro w' hSw; (try dsimp only at hSw); go_simp; try with_reducible rfl
    simp only [Act.put]
    try dsimp only
    refine wpAnyF_ready (rs := [12]) (by kernel_rfl) (by simp) ?_
    refine AllReadyF.cons rfl (fun K hK => ?_) AllReadyF.nil
    go_simp
    refine HC.out.mono ?_
    rintro e w2 ⟨a2, c2, rfl, HI, HB2⟩
    have hb2 : Below wa.heap.size wa w2 := below_to ((Below.refl wa.heap.size wa).drew) HB2.out
    have k2 := HK.out.later hb2
    have l0 := k2.cell 0; have l1 := k2.cell 1; have l2 := k2.cell 2; have l3 := k2.cell 3; have l4 := k2.cell 4; have l5 := k2.cell 5; have l6 := k2.cell 6
    have y0 := k2.frozen 0; have y1 := k2.frozen 1; have y2 := k2.frozen 2; have y3 := k2.frozen 3; have y4 := k2.frozen 4; have y5 := k2.frozen 5; have y6 := k2.frozen 6
    simp [frc, frz, fr0] at l0 l1 l2 l3 l4 l5 l6
    have HS2 := hide_ (HCl.out w2 hb2)
    have hu3 := upd7 w2 w.heap.size 0 f (.slice a2 f.T.length c2)
    have hK3 := k2.set7 f (.slice a2 f.T.length c2)
    have hM3 := (HM.out.later hb2).upd hu3 (fun k hk e => by have := HGW.out k hk; omega)
    have hI3 := IOwn.upd HI.out hu3 (fun k hk e => by subst e; exact HI.out.notF k2 (by decide) hk)
    have hB3 := below7 (below_to HB.out hb2) w.heap.size 0 f (.slice a2 f.T.length c2) (Nat.le_refl _)
    obtain ⟨w3, hw3⟩ : ∃ w3, w3 = set7 w2 w.heap.size 0 f (.slice a2 f.T.length c2) := ⟨_, rfl⟩
    rw [← hw3] at hK3 hM3 hI3 hB3
    have HK3 := hide_ hK3
    have HI3 := hide_ hI3
    have HB3 := hide_ hB3
    have HS3 := hide_ (HCe.out w3 hM3)
    clear hu3 hK3 hM3 hI3 hB3 k2 hb2
    dsimp only
    refine hK.out _ _ (HS2.out) (fun hHeld => ?_)
    clear hK K
    refine wpAnyF_ready (rs := [13]) (by kernel_rfl) (by simp) ?_
    refine AllReadyF.cons rfl (fun K hK => ?_) AllReadyF.nil
    go_simp
    rw [s7, ← hw3]
    clear hw3
    refine hK.out _ _ (HS3.out) (fun hHeld => ?_)
    clear hK K
    refine wpAnyF_ready (rs := [14]) (by kernel_rfl) (by simp) ?_
    refine AllReadyF.last rfl (fun K hK => ?_)
    go_simp
    refine hK.out _ _ ?_
    clear hK K
    refine wpAnyF_done (by kernel_rfl) ?_ _
    go_wp2_with fail
    refine retFu rfl f _ rfl rfl HK3.out ?_
    exact .inr ⟨Q.map (·.1), f, a2, c2, by rw [← HPm.out, List.map_append]; rfl, rfl, hide_ (own_base HI3.out HB.out.size), HB3.out⟩
end Go.Proofs.Ytcmkdkocponpiaa

/- mortiseref22: Head. -/
namespace Go.Proofs.Ytcmkdkocponpiaa
open Go.RowKit
set_option linter.unusedVariables false

set_option maxRecDepth 100000 in
set_option maxHeartbeats 16000000 in
theorem rhead_any (w : World) (B : Nat) (F : Nat → Prop) (g : Nat) (fs : List Fr) (m h : Int) (hS : Hid (RSk w B F g fs m h)) :
    Calls Try.prog 64 #[.pointer (some ⟨g, 0, none⟩)] w fun e w' => HeadTo w fs e w' := by
  obtain ⟨wa, hwa⟩ : ∃ wx, wx = w.alloc (.cells #[.int .i64 0, .int .i64 0, .int .i64 0, .int .i64 0, .int .i64 0, .int .i64 0, .slice none 0 0] 39) := ⟨_, rfl⟩
  have hB : Below w.heap.size w wa := by rw [hwa]; exact below1 _ _
  have k1 : Blk wa w.heap.size 39 (frc frz) := by rw [hwa]; exact Blk.newA w _ _
  have HT := hide_ (rtop_any wa B F g fs m h (hide_ (hS.out.later hB)))
  have HK1 := hide_ k1
  have HB := hide_ hB
  clear hS hB k1
  go_enter Try.func64, Try.ntmps64
  go_upto_region 1 with fail
  rw [← hwa]
  clear hwa
  go_wp2_with fail
  refine HT.out.mono ?_
  rintro e w2 hTop
  have hx : ∃ (f : Fr) (a2 : Option Addr) (n2 c2 : Nat) (er : Int), e = .returned (.tuple #[.agg #[.int .i64 f.r, .int .i64 f.a, .int .i64 f.b, .int .i64 f.e, .int .i64 f.n, .int .i64 f.x, .slice a2 n2 c2], .int .i64 er]) ∧ Hid (Below wa.heap.size wa w2) ∧ Hid (∀ w', Below w.heap.size w w' → HeadTo w fs (.returned (.tuple #[fag f (.slice none 0 0), .int .i64 er])) w') := by
    rcases hTop with ⟨hnil, rfl, hB2⟩ | ⟨l, f, a2, c2, hfs, rfl, -, hB2⟩
    · exact ⟨fr0, none, 0, 0, 220, rfl, hide_ hB2, hide_ (fun w' hb => .inl ⟨hnil, by rw [fag0], hb⟩)⟩
    · exact ⟨f, a2, f.T.length, c2, 0, rfl, hide_ hB2, hide_ (fun w' hb => .inr ⟨l, f, hfs, rfl, hb⟩)⟩
  clear hTop
  obtain ⟨f, a2, n2, c2, er, rfl, HB2, HPo⟩ := hx
  obtain ⟨w3, hw3⟩ : ∃ wx, wx = w2.alloc (.cells #[.int .i64 f.r, .int .i64 f.a, .int .i64 f.b, .int .i64 f.e, .int .i64 f.n, .int .i64 f.x, .slice a2 n2 c2] 39) := ⟨_, rfl⟩
  have hB3 : Below w2.heap.size w2 w3 := by rw [hw3]; exact below1 _ _
  have k3 : Blk w3 w2.heap.size 39 (frc (f, .slice a2 n2 c2)) := by rw [hw3]; exact Blk.newA w2 _ _
  have j6 := k3.cell 6; have y6 := k3.frozen 6
  simp [frc] at j6
  have hne : w.heap.size ≠ w2.heap.size := by have := HK1.out.lt; have := HB2.out.size; omega
  have hk4 := k3.set 6 (.slice none 0 0)
  have hl4 : Blk (w3.setCell ⟨w2.heap.size, 6, none⟩ (.slice none 0 0)) w.heap.size 39 (frc frz) := (((HK1.out.later HB2.out).later hB3).upd ((Upd.refl (fun k => k = w2.heap.size) w3).set ⟨w2.heap.size, 6, none⟩ (.slice none 0 0) (.inl rfl)) hne)
  have hb4 : Below w.heap.size w (w3.setCell ⟨w2.heap.size, 6, none⟩ (.slice none 0 0)) := below_set (below_to (below_to HB.out HB2.out) hB3) _ _ _ (by have := HK1.out.lt; have := HB2.out.size; omega)
  obtain ⟨w4, hw4⟩ : ∃ w4, w4 = w3.setCell ⟨w2.heap.size, 6, none⟩ (.slice none 0 0) := ⟨_, rfl⟩
  rw [← hw4] at hk4 hl4 hb4
  have c0 := hk4.cell 0; have c1 := hk4.cell 1; have c2' := hk4.cell 2; have c3 := hk4.cell 3; have c4 := hk4.cell 4; have c5 := hk4.cell 5; have c6 := hk4.cell 6
  have l0 := hl4.cell 0; have l1 := hl4.cell 1; have l2 := hl4.cell 2; have l3 := hl4.cell 3; have l4 := hl4.cell 4; have l5 := hl4.cell 5; have l6 := hl4.cell 6
  have z0 := hl4.frozen 0; have z1 := hl4.frozen 1; have z2 := hl4.frozen 2; have z3 := hl4.frozen 3; have z4 := hl4.frozen 4; have z5 := hl4.frozen 5; have z6 := hl4.frozen 6
  simp [frc, frz, fr0] at c0 c1 c2' c3 c4 c5 c6 l0 l1 l2 l3 l4 l5 l6
  have HL4 := hide_ hl4
  have HB4 := hide_ hb4
  clear hk4 hl4 hb4 hB3 k3 hne
  go_upto_region 2 with fail
  rw [← hw3]
  clear hw3
  go_upto_region 3 with fail
  rw [← hw4]
  clear hw4 j6 y6
  go_wp2_with fail
  rw [s7]
  refine retFu rfl f _ rfl rfl (HL4.out.set7 f (.slice none 0 0)) ?_
  exact HPo.out _ (below7 HB4.out _ _ _ _ (Nat.le_refl _))
end Go.Proofs.Ytcmkdkocponpiaa

/- mortiseref22: Pop. -/
namespace Go.Proofs.Ytcmkdkocponpiaa
open Go.RowKit
set_option linter.unusedVariables false

theorem RSt.popR {w : World} {B g gF cap : Nat} {Q : List (Fr × Value)} {p : Fr × Value} {m h : Int} (H : RSt w B g (.slice (some ⟨gF, 0, none⟩) (Q.length + 1) cap) (Q ++ [p]) m h) :
    RSt (w.setCell ⟨g, 0, none⟩ (.slice (some ⟨gF, 0, none⟩) Q.length cap)) B g (.slice (some ⟨gF, 0, none⟩) Q.length cap) Q m h := by
  have hin := H.own.init
  have hu := (Upd.refl (fun k => k = g) w).set ⟨g, 0, none⟩ (.slice (some ⟨gF, 0, none⟩) Q.length cap) (.inl rfl)
  refine ⟨H.box.set 0 _, hin.upd hu (fun k hk e => ?_) (fun q hq k hk e => ?_), H.bg, H.hm, ?_, ?_, fun q hq => H.rt q (List.mem_append_left _ hq)⟩
  · subst e; exact hin.rowNe H.box (by decide) hk
  · subst e; exact hin.tbNe H.box (by decide) q hq hk
  · have := H.hl; simp at this; omega
  · have := H.hh; simp at this; omega
/-- What Pop answers. -/
def RPopTo (w : World) (B : Nat) (F : Nat → Prop) (g : Nat) (fs : List Fr) (m h : Int) (e : Ending) (w' : World) : Prop :=
  (fs = [] ∧ e = .returned (.tuple #[.agg #[.int .i64 0, .int .i64 0, .int .i64 0, .int .i64 0, .int .i64 0, .int .i64 0, .slice none 0 0], .int .i64 220]) ∧ Hid (RSk w' B F g fs m h) ∧ Hid (Upd F w w')) ∨
  (∃ l f a c, fs = l ++ [f] ∧ e = .returned (.tuple #[.agg #[.int .i64 f.r, .int .i64 f.a, .int .i64 f.b, .int .i64 f.e, .int .i64 f.n, .int .i64 f.x, .slice a f.T.length c], .int .i64 0]) ∧ Hid (IOwn w' w.heap.size (.slice a f.T.length c) f.T) ∧ Hid (RSk w' B F g l m h) ∧ Hid (Upd F w w'))
set_option maxRecDepth 100000 in
set_option maxHeartbeats 16000000 in
theorem rpop_any (w : World) (B : Nat) (F : Nat → Prop) (g : Nat) (fs : List Fr) (m h : Int) (hS : Hid (RSk w B F g fs m h)) (hBw : B ≤ w.heap.size) :
    Calls Try.prog 57 #[.pointer (some ⟨g, 0, none⟩)] w fun e w' => RPopTo w B F g fs m h e w' := by
  obtain ⟨wa, hwa⟩ : ∃ wx, wx = w.alloc (.cells #[.int .i64 0, .int .i64 0, .int .i64 0, .int .i64 0, .int .i64 0, .int .i64 0, .slice none 0 0] 39) := ⟨_, rfl⟩
  have hB : Below w.heap.size w wa := by rw [hwa]; exact below1 _ _
  have k1 : Blk wa w.heap.size 39 (frc frz) := by rw [hwa]; exact Blk.newA w _ _
  have HT := hide_ (rtop_any wa B F g fs m h (hide_ (hS.out.later hB)))
  have HK1 := hide_ k1
  have HB := hide_ hB
  have HS := hS
  clear hS hB k1
  go_enter Try.func57, Try.ntmps57
  go_upto_region 1 with fail
  rw [← hwa]
  clear hwa
  go_wp2_with fail
  refine HT.out.mono ?_
  rintro e w2 (⟨hnil, rfl, hB2⟩ | ⟨l, f, a2, c2, hfs, rfl, HI2, hB2⟩)
  · obtain ⟨w3, hw3⟩ : ∃ wx, wx = w2.alloc (.cells #[.int .i64 0, .int .i64 0, .int .i64 0, .int .i64 0, .int .i64 0, .int .i64 0, .slice none 0 0] 39) := ⟨_, rfl⟩
    have hB3 : Below w2.heap.size w2 w3 := by rw [hw3]; exact below1 _ _
    have k3 : Blk w3 w2.heap.size 39 (frc frz) := by rw [hw3]; exact Blk.newA w2 _ _
    have hl4 := (HK1.out.later hB2).later hB3
    have c0 := k3.cell 0; have c1 := k3.cell 1; have c2 := k3.cell 2; have c3 := k3.cell 3; have c4 := k3.cell 4; have c5 := k3.cell 5; have c6 := k3.cell 6
    have l0 := hl4.cell 0; have l1 := hl4.cell 1; have l2 := hl4.cell 2; have l3 := hl4.cell 3; have l4 := hl4.cell 4; have l5 := hl4.cell 5; have l6 := hl4.cell 6
    have z0 := hl4.frozen 0; have z1 := hl4.frozen 1; have z2 := hl4.frozen 2; have z3 := hl4.frozen 3; have z4 := hl4.frozen 4; have z5 := hl4.frozen 5; have z6 := hl4.frozen 6
    simp [frc, frz, fr0] at c0 c1 c2 c3 c4 c5 c6 l0 l1 l2 l3 l4 l5 l6
    have HL4 := hide_ hl4
    have HN := hide_ hnil
    have HB4 := hide_ (below_to (below_to HB.out hB2) hB3)
    clear hl4 hB3 k3 hnil hB2
    go_upto_region 2 with fail
    rw [← hw3]
    clear hw3
    go_wp2_with fail
    rw [z7]
    refine retFu rfl fr0 _ rfl rfl (HL4.out.set7 fr0 (.slice none 0 0)) ?_
    rw [fag0]
    have hb := below7 HB4.out w.heap.size 0 fr0 (.slice none 0 0) (Nat.le_refl _)
    exact .inl ⟨HN.out, rfl, hide_ (HS.out.later hb), hide_ (Upd.of_below hb)⟩
  · obtain ⟨v, P, hM, hP, hF, hFl⟩ := HS.out
    rcases List.eq_nil_or_concat P with rfl | ⟨Q, p, rfl⟩
    · exfalso
      rw [hfs] at hP
      simp at hP
    rw [List.concat_eq_append] at hM hP hF
    obtain ⟨gF, cap, rfl, hn, hm, hbg, hlt, hc, hz, hbk⟩ := hM.own.last
    have hlQ : l = Q.map (·.1) := by
      rw [hfs, List.map_append] at hP
      exact (List.append_inj' hP rfl).1.symm
    unfold maxLen at hm
    obtain ⟨w3, hw3⟩ : ∃ wx, wx = w2.alloc (.cells #[.int .i64 f.r, .int .i64 f.a, .int .i64 f.b, .int .i64 f.e, .int .i64 f.n, .int .i64 f.x, .slice a2 f.T.length c2] 39) := ⟨_, rfl⟩
    have hB3 : Below w2.heap.size w2 w3 := by rw [hw3]; exact below1 _ _
    have k3 : Blk w3 w2.heap.size 39 (frc (f, .slice a2 f.T.length c2)) := by rw [hw3]; exact Blk.newA w2 _ _
    have hB03 := below_to (below_to HB.out hB2) hB3
    have HM3 := hide_ (hM.later hB03)
    have hI3 := HI2.out.later hB3
    have hl3 := (HK1.out.later hB2).later hB3
    have hqi := i64w (Q.length : Int) (by omega)
    have hqn : ¬ ((Q.length : Int) < 0) := by omega
    have hqc : (Q.length : Int) ≤ (cap : Int) := by omega
    have hqc' : Q.length ≤ cap := by omega
    have hgw : g < w.heap.size := (hFl g (hF g (.inl rfl))).2
    have hsw : w.heap.size < w2.heap.size := by have := HK1.out.lt; have := hB2.size; omega
    -- the store
    have hu4 := (Upd.refl (fun k => k = g) w3.drew).set ⟨g, 0, none⟩ (.slice (some ⟨gF, 0, none⟩) Q.length cap) (.inl rfl)
    have hM4 : RSt (w3.drew.setCell ⟨g, 0, none⟩ (.slice (some ⟨gF, 0, none⟩) Q.length cap)) B g (.slice (some ⟨gF, 0, none⟩) Q.length cap) Q m h := RSt.popR (HM3.out.later (w' := w3.drew) ((Below.refl w3.heap.size w3).drew))
    have hk4 : Blk (w3.drew.setCell ⟨g, 0, none⟩ (.slice (some ⟨gF, 0, none⟩) Q.length cap)) w2.heap.size 39 (frc (f, .slice a2 f.T.length c2)) := Blk.upd (w := w3.drew) k3 hu4 (by omega)
    have hl4 : Blk (w3.drew.setCell ⟨g, 0, none⟩ (.slice (some ⟨gF, 0, none⟩) Q.length cap)) w.heap.size 39 (frc frz) := Blk.upd (w := w3.drew) hl3 hu4 (by omega)
    have hI4 : IOwn (w3.drew.setCell ⟨g, 0, none⟩ (.slice (some ⟨gF, 0, none⟩) Q.length cap)) wa.heap.size (.slice a2 f.T.length c2) f.T := IOwn.upd (hI3.later ((Below.refl w3.heap.size w3).drew)) hu4 (fun k hk e => by have := (HI2.out.lies hk).1; have := HB.out.size; omega)
    have hU4 : Upd F w (w3.drew.setCell ⟨g, 0, none⟩ (.slice (some ⟨gF, 0, none⟩) Q.length cap)) := (Upd.of_below (hB03.trans ((Below.refl w3.heap.size w3).drew.mono hB03.size))).set ⟨g, 0, none⟩ _ (.inl (hF g (.inl rfl)))
    obtain ⟨w4, hw4⟩ : ∃ w4, w4 = w3.drew.setCell ⟨g, 0, none⟩ (.slice (some ⟨gF, 0, none⟩) Q.length cap) := ⟨_, rfl⟩
    rw [← hw4] at hM4 hk4 hl4 hI4 hU4
    have hw4' : w4 = (w3.setCell ⟨g, 0, none⟩ (.slice (some ⟨gF, 0, none⟩) Q.length cap)).drew := by rw [hw4]; first | rfl | simp
    clear hw4
    have HM4 := hide_ hM4
    have HK4 := hide_ hk4
    have HL4 := hide_ hl4
    have HI4 := hide_ hI4
    have HU4 := hide_ hU4
    have HlQ := hide_ hlQ
    have HFs := hide_ hfs
    have HF := hide_ hF
    have HFl := hide_ hFl
    have HSa : Hid (wa.heap.size ≥ w.heap.size) := hide_ HB.out.size
    clear hu4 hM4 hk4 hl4 hI4 hU4 hlQ hfs hF hFl hM hP hn hm hbg hlt hc hz hbk hI3 hl3 k3 hB3 hB03 hB2
    go_upto_region 2 with fail
    rw [← hw3]
    clear hw3
    go_upto_region 3 with fail
    refine wp_region_last 14 (fun w' => w'.cell? ⟨g, 0, none⟩ = some (.slice (some ⟨gF, 0, none⟩) (Q.length + 1) cap)) (by kernel_rfl) (HM3.out.box.cell 0) (fun hHeld => ?_)
    refine wpAnyF_take [14] (by kernel_rfl) (i := 0) (v := ?vf1) rfl (by kernel_rfl) (by kernel_rfl) (by kernel_rfl) (fun _ _ _ h => h) (Or.inl ⟨by kernel_rfl, ?hyf1⟩) hHeld ?restf1
    case hyf1 => intro w' hSw; (try dsimp only at hSw); go_simp; try with_reducible rfl
    simp only [Act.put]
    try dsimp only
    refine wpAnyF_take [14] (by kernel_rfl) (i := 1) (v := ?vf2) rfl (by kernel_rfl) (by kernel_rfl) (by kernel_rfl) (fun _ _ _ h => h) (Or.inl ⟨by kernel_rfl, ?hyf2⟩) hHeld ?restf2
    case hyf2 => intro w' hSw; (try dsimp only at hSw); go_simp; try with_reducible rfl
    simp only [Act.put]
    try dsimp only
    refine wpAnyF_take [14] (by kernel_rfl) (i := 2) (v := ?vf3) rfl (by kernel_rfl) (by kernel_rfl) (by kernel_rfl) (fun _ _ _ h => h) (Or.inl ⟨by kernel_rfl, ?hyf3⟩) hHeld ?restf3
    case hyf3 => intro w' hSw; (try dsimp only at hSw); go_simp; try with_reducible rfl
    simp only [Act.put]
    try dsimp only
    refine wpAnyF_take [14] (by kernel_rfl) (i := 3) (v := ?vf4) rfl (by kernel_rfl) (by kernel_rfl) (by kernel_rfl) (fun _ _ _ h => h) (Or.inl ⟨by kernel_rfl, ?hyf4⟩) hHeld ?restf4
    case hyf4 => intro w' hSw; (try dsimp only at hSw); go_simp; try with_reducible rfl
    simp only [Act.put]
    try dsimp only
    refine wpAnyF_take [14] (by kernel_rfl) (i := 4) (v := ?vf5) rfl (by kernel_rfl) (by kernel_rfl) (by kernel_rfl) (fun _ _ _ h => h) (Or.inl ⟨by kernel_rfl, ?hyf5⟩) hHeld ?restf5
    case hyf5 => intro w' hSw; (try dsimp only at hSw); go_simp; try with_reducible rfl
    simp only [Act.put]
    try dsimp only
    refine wpAnyF_take [14] (by kernel_rfl) (i := 5) (v := ?vf6) rfl (by kernel_rfl) (by kernel_rfl) (by kernel_rfl) (fun _ _ _ h => h) (Or.inl ⟨by kernel_rfl, ?hyf6⟩) hHeld ?restf6
    case hyf6 => intro w' hSw; (try dsimp only at hSw); go_simp; try with_reducible rfl
    simp only [Act.put]
    try dsimp only
    refine wpAnyF_take [14] (by kernel_rfl) (i := 6) (v := ?vf7) rfl (by kernel_rfl) (by kernel_rfl) (by kernel_rfl) (fun _ _ _ h => h) (Or.inl ⟨by kernel_rfl, ?hyf7⟩) hHeld ?restf7
    case hyf7 => intro w' hSw; (try dsimp only at hSw); go_simp; try with_reducible rfl
    simp only [Act.put]
    try dsimp only
    refine wpAnyF_take [14] (by kernel_rfl) (i := 7) (v := ?vf8) rfl (by kernel_rfl) (by kernel_rfl) (by kernel_rfl) (fun _ _ _ h => h) (Or.inl ⟨by kernel_rfl, ?hyf8⟩) hHeld ?restf8
    case hyf8 => intro w' hSw; (try dsimp only at hSw); go_simp; try with_reducible rfl
    simp only [Act.put]
    try dsimp only
    refine wpAnyF_take [14] (by kernel_rfl) (i := 8) (v := ?vf9) rfl (by kernel_rfl) (by kernel_rfl) (by kernel_rfl) (fun _ _ _ h => h) (Or.inl ⟨by kernel_rfl, ?hyf9⟩) hHeld ?restf9
    case hyf9 => intro w' hSw; (try dsimp only at hSw); go_simp; try with_reducible rfl
    simp only [Act.put]
    try dsimp only
    refine wpAnyF_take [14] (by kernel_rfl) (i := 9) (v := ?vf10) rfl (by kernel_rfl) (by kernel_rfl) (by kernel_rfl) (fun _ _ _ h => h) (Or.inl ⟨by kernel_rfl, ?hyf10⟩) hHeld ?restf10
    case hyf10 => intro w' hSw; (try dsimp only at hSw); go_simp; try with_reducible rfl
    simp only [Act.put]
    try dsimp only
    refine wpAnyF_take [14] (by kernel_rfl) (i := 10) (v := ?vf11) rfl (by kernel_rfl) (by kernel_rfl) (by kernel_rfl) (fun _ _ _ h => h) (Or.inl ⟨by kernel_rfl, ?hyf11⟩) hHeld ?restf11
    case hyf11 => intro w' hSw; (try dsimp only at hSw); go_simp; try with_reducible rfl
    simp only [Act.put]
    try dsimp only
    refine wpAnyF_take [14] (by kernel_rfl) (i := 11) (v := ?vf12) rfl (by kernel_rfl) (by kernel_rfl) (by kernel_rfl) (fun _ _ _ h => h) (Or.inl ⟨by kernel_rfl, ?hyf12⟩) hHeld ?restf12
    case hyf12 => intro w' hSw; (try dsimp only at hSw); go_simp; try with_reducible rfl
    simp only [Act.put]
    try dsimp only
    refine wpAnyF_take [14, 13] (by kernel_rfl) (i := 12) (v := ?vf13) rfl (by kernel_rfl) (by kernel_rfl) (by kernel_rfl) (fun _ _ _ h => h) (Or.inl ⟨by kernel_rfl, ?hyf13⟩) hHeld ?restf13
    case hyf13 => intro w' hSw; (try dsimp only at hSw); go_simp; try with_reducible rfl
    simp only [Act.put]
    try dsimp only
    refine wpAnyF_take [14] (by kernel_rfl) (i := 13) (v := ?vf14) rfl (by kernel_rfl) (by kernel_rfl) (by kernel_rfl) (fun _ _ _ h => h) (Or.inl ⟨by kernel_rfl, ?hyf14⟩) hHeld ?restf14
    case hyf14 => intro w' hSw; (try dsimp only at hSw); go_simp; try with_reducible rfl
    simp only [Act.put]
    try dsimp only
    refine wpAnyF_ready (rs := [14]) (by kernel_rfl) (by simp) ?_
    refine AllReadyF.last rfl (fun K hK => ?_)
    have qz : w3.drew.frozen? ⟨g, 0, none⟩ = false := HM3.out.box.frozen 0
    have qc : w3.drew.cell? ⟨g, 0, none⟩ = some (.slice (some ⟨gF, 0, none⟩) (Q.length + 1) cap) := HM3.out.box.cell 0
    go_simp
    refine hK.out _ _ ?_
    clear hK K
    refine wpAnyF_done (by kernel_rfl) ?_ _
    rw [← hw4']
    clear hw4'
    have c0 := HK4.out.cell 0; have c1 := HK4.out.cell 1; have c2' := HK4.out.cell 2; have c3 := HK4.out.cell 3; have c4 := HK4.out.cell 4; have c5 := HK4.out.cell 5; have c6 := HK4.out.cell 6
    have l0 := HL4.out.cell 0; have l1 := HL4.out.cell 1; have l2 := HL4.out.cell 2; have l3 := HL4.out.cell 3; have l4 := HL4.out.cell 4; have l5 := HL4.out.cell 5; have l6 := HL4.out.cell 6
    have z0 := HL4.out.frozen 0; have z1 := HL4.out.frozen 1; have z2 := HL4.out.frozen 2; have z3 := HL4.out.frozen 3; have z4 := HL4.out.frozen 4; have z5 := HL4.out.frozen 5; have z6 := HL4.out.frozen 6
    simp [frc, frz, fr0] at c0 c1 c2' c3 c4 c5 c6 l0 l1 l2 l3 l4 l5 l6
    go_wp2_with fail
    rw [s7]
    refine retFu rfl f _ rfl rfl (HL4.out.set7 f (.slice a2 f.T.length c2)) ?_
    have hu5 := upd7 w4 w.heap.size 0 f (.slice a2 f.T.length c2)
    have hM5 := HM4.out.upd hu5 (fun k hk e => by
      subst e
      rcases hk with hk | hk | ⟨q, hq, hk⟩
      · omega
      · have := (HFl.out _ (HF.out _ (.inr (.inl hk)))).2; omega
      · have := (HFl.out _ (HF.out _ (.inr (.inr ⟨q, List.mem_append_left _ hq, hk⟩)))).2; omega)
    refine .inr ⟨l, f, a2, c2, HFs.out, rfl, hide_ (own_base (IOwn.upd HI4.out hu5 (fun k hk e => by subst e; exact HI4.out.notF HL4.out (by decide) hk)) HSa.out), hide_ ⟨_, Q, hM5, HlQ.out.symm, fun k hk => ?_, fun k hk => ⟨(HFl.out k hk).1, ?_⟩⟩, hide_ ?_⟩
    · rcases hk with hk | hk | ⟨q, hq, hk⟩
      · exact HF.out k (.inl hk)
      · exact HF.out k (.inr (.inl hk))
      · exact HF.out k (.inr (.inr ⟨q, List.mem_append_left _ hq, hk⟩))
    · have h1 := (HFl.out k hk).2
      have h2 := HU4.out.size
      have h3 := hu5.size
      omega
    · exact HU4.out.trans hu5 (fun k hk e => by subst e; omega)
end Go.Proofs.Ytcmkdkocponpiaa

/- mortiseref22: Set. -/
namespace Go.Proofs.Ytcmkdkocponpiaa
open Go.RowKit
set_option linter.unusedVariables false

theorem s7p (w : World) (g o : Nat) (f : Fr) (v : Value) : ((((((w.setCell ⟨g, o, none⟩ (.int .i64 f.r)).setCell ⟨g, o + 1, none⟩ (.int .i64 f.a)).setCell ⟨g, o + 2, none⟩ (.int .i64 f.b)).setCell ⟨g, o + 3, none⟩ (.int .i64 f.e)).setCell ⟨g, o + 4, none⟩ (.int .i64 f.n)).setCell ⟨g, o + 5, none⟩ (.int .i64 f.x)).setCell ⟨g, o + 6, none⟩ v = set7 w g o f v := by simp only [set7]
theorem RSt.setLast {w : World} {B g : Nat} {F : Nat → Prop} {gF cap : Nat} {Q : List (Fr × Value)} {p : Fr × Value} {m h : Int} {w0 : World} (H : RSt w B g (.slice (some ⟨gF, 0, none⟩) (Q.length + 1) cap) (Q ++ [p]) m h)
    (hu : Upd F w0 w) (hF : ∀ k, skB g (.slice (some ⟨gF, 0, none⟩) (Q.length + 1) cap) (Q ++ [p]) k → F k) (hFl : ∀ k, F k → B ≤ k ∧ k < w0.heap.size) (hB0 : B ≤ w0.heap.size)
    (f : Fr) (v : Value) (hv : IOwn w B v f.T) (hn : ∀ k, v.ownBlock = some k → w0.heap.size ≤ k ∨ p.2.ownBlock = some k) (hf : frB f = true) :
    RSkTo w0 B F (set7 w gF (Q.length * 7) f v) g (Q.map (·.1) ++ [f]) m h := by
  have hx : (Q ++ [p])[Q.length]? = some p := by simp
  have hFg : F gF := hF gF (.inr (.inl rfl))
  have hset := H.own.set hx f v hv (fun j q hj hq k h1 h2 => by
    rcases hn k h1 with h3 | h3
    · have := (hFl k (hF k (.inr (.inr ⟨q, List.mem_of_getElem? hq, h2⟩)))).2
      omega
    · exact pair_at (fun x y h k a b => h k b a) H.own.ap hx hq (fun e => hj e.symm) k h3 h2)
  rw [set_last] at hset
  have hg : Blk (set7 w gF (Q.length * 7) f v) g 95 [.slice (some ⟨gF, 0, none⟩) (Q.length + 1) cap, .int .i64 m, .int .i64 h] :=
    H.box.upd (upd7 w gF (Q.length * 7) f v) (fun e => by
      subst e
      exact H.own.rowNe H.box (by decide) rfl)
  have hM : RSt (set7 w gF (Q.length * 7) f v) B g (.slice (some ⟨gF, 0, none⟩) (Q.length + 1) cap) (Q ++ [(f, v)]) m h :=
    ⟨hg, hset, H.bg, H.hm, by have := H.hl; simp at this ⊢; exact this, by have := H.hh; simp at this ⊢; exact this, fun q hq => by
      rcases List.mem_append.1 hq with hq | hq
      · exact H.rt q (List.mem_append_left _ hq)
      · simp only [List.mem_singleton] at hq
        subst hq
        exact hf⟩
  have hto := hM.to (hu.trans (upd7 w gF (Q.length * 7) f v) (fun k _ e => by subst e; exact hFg)) hB0 hFl (fun k hk => by
    rcases hk with hk | hk | ⟨q, hq, hk⟩
    · exact .inl (hF k (.inl hk))
    · exact .inl (hF k (.inr (.inl hk)))
    · rcases List.mem_append.1 hq with hq | hq
      · exact .inl (hF k (.inr (.inr ⟨q, List.mem_append_left _ hq, hk⟩)))
      · simp only [List.mem_singleton] at hq
        subst hq
        rcases hn k hk with h3 | h3
        · exact .inr h3
        · exact .inl (hF k (.inr (.inr ⟨p, List.mem_append_right _ (List.mem_singleton.2 rfl), h3⟩))))
  rw [List.map_append] at hto
  exact hto
/-- What Set answers. -/
def RSetTo (w : World) (B : Nat) (F : Nat → Prop) (g : Nat) (fs : List Fr) (m h : Int) (f : Fr) (e : Ending) (w' : World) : Prop :=
  (fs = [] ∧ e = .returned (.int .i64 220) ∧ RSkTo w B F w' g fs m h) ∨
  (fs ≠ [] ∧ frB f = false ∧ e = .returned (.int .i64 3) ∧ RSkTo w B F w' g fs m h) ∨
  (∃ l y, fs = l ++ [y] ∧ frB f = true ∧ e = .returned (.int .i64 0) ∧ RSkTo w B F w' g (l ++ [f]) m h)
set_option maxRecDepth 100000 in
set_option maxHeartbeats 16000000 in
theorem rset_any (w : World) (B : Nat) (F : Nat → Prop) (g : Nat) (fs : List Fr) (m h : Int) (f : Fr) (a : Option Addr) (c : Nat) (hS : Hid (RSk w B F g fs m h)) (hA : Hid (FrA w f a c)) (hBw : B ≤ w.heap.size) :
    Calls Try.prog 59 #[.pointer (some ⟨g, 0, none⟩), .agg #[.int .i64 f.r, .int .i64 f.a, .int .i64 f.b, .int .i64 f.e, .int .i64 f.n, .int .i64 f.x, .slice a f.T.length c]] w fun e w' => RSetTo w B F g fs m h f e w' := by
  obtain ⟨v, P, hM, hP, hF, hFl⟩ := hS.out
  have HS := hS
  obtain ⟨w1, hw1⟩ : ∃ wx, wx = w.alloc (.cells #[.int .i64 f.r, .int .i64 f.a, .int .i64 f.b, .int .i64 f.e, .int .i64 f.n, .int .i64 f.x, .slice a f.T.length c] 39) := ⟨_, rfl⟩
  have hB1 : Below w.heap.size w w1 := by rw [hw1]; exact below1 _ _
  have k1 : Blk w1 w.heap.size 39 (frc (f, .slice a f.T.length c)) := by rw [hw1]; exact Blk.newA w _ _
  have HPm := hide_ hP
  have HF := hide_ hF
  have HFl := hide_ hFl
  have hM1 := hM.later hB1
  have HK1 := hide_ k1
  have HB1 := hide_ hB1
  have HA1 := hide_ (hA.out.later hB1)
  have j0 := k1.cell 0; have j1 := k1.cell 1; have j2 := k1.cell 2; have j3 := k1.cell 3; have j4 := k1.cell 4; have j5 := k1.cell 5; have j6 := k1.cell 6
  simp [frc] at j0 j1 j2 j3 j4 j5 j6
  clear hS hF hFl hM hP k1 hB1 hA
  rcases List.eq_nil_or_concat P with rfl | ⟨Q, p, rfl⟩
  · obtain ⟨av, cv, rfl, -⟩ := hM1.own.slice
    have q0 := hM1.box.cell 0
    simp at q0
    clear hM1
    go_enter Try.func59, Try.ntmps59
    go_upto_region 1 with fail
    rw [← hw1]
    clear hw1
    go_wp2_with fail
    go_ret
    exact .inl ⟨HPm.out.symm, rfl, HS.out.same HB1.out⟩
  · rw [List.concat_eq_append] at hM1 HPm HF
    obtain ⟨gF, cap, rfl, hn, hm, hbg, hlt, hc, hz, hbk⟩ := hM1.own.last
    unfold maxLen at hm
    have HN : Hid (fs ≠ []) := hide_ (by rw [← HPm.out]; simp)
    have HM1 := hide_ hM1
    have q0 := hM1.box.cell 0
    simp at q0
    have hq0 : ((Q.length : Int) + 1 == 0) = false := by simp; omega
    have hqi := i64w (Q.length : Int) (by omega)
    have hqlt : (Q.length : Int) < (Q.length : Int) + 1 := by omega
    clear hM1 hc hz hbk hn hm hbg hlt
    go_enter Try.func59, Try.ntmps59
    go_upto_region 1 with fail
    rw [← hw1]
    clear hw1
    go_wp2_with fail
    refine (rright_any f a c w1 HA1).mono ?_
    rintro e w2 ⟨rfl, hB12⟩
    cases hf : frB f with
    | false =>
      have HFf := hide_ hf
      have HB2 := hide_ (below_to HB1.out hB12)
      clear hf hB12
      go_wp2_with fail
      go_ret
      exact .inr (.inl ⟨HN.out, HFf.out, rfl, HS.out.same HB2.out⟩)
    | true =>
      have HFf := hide_ hf
      have HT : Hid (f.T.length ≤ 1048576) := hide_ (frB_is hf).1
      have HA2 := hide_ (HA1.out.later hB12)
      have HC := hide_ (own_any f a c w2.drew (hide_ ⟨HA2.out.1.drew, HA2.out.2⟩) (by have := HT.out; omega))
      have HK2 := hide_ (HK1.out.later hB12)
      have HM2 := hide_ (HM1.out.later hB12)
      have HB2 := hide_ (below_to HB1.out hB12)
      have HCl : Hid (∀ w', Below w2.heap.size w2 w' → (fun w' => w'.cell? ⟨g, 0, none⟩ = some (.slice (some ⟨gF, 0, none⟩) (Q.length + 1) cap) ∧ w'.cell? ⟨w.heap.size, 0, none⟩ = some (.int .i64 f.r) ∧ w'.cell? ⟨w.heap.size, 1, none⟩ = some (.int .i64 f.a) ∧ w'.cell? ⟨w.heap.size, 2, none⟩ = some (.int .i64 f.b) ∧ w'.cell? ⟨w.heap.size, 3, none⟩ = some (.int .i64 f.e) ∧ w'.cell? ⟨w.heap.size, 4, none⟩ = some (.int .i64 f.n) ∧ w'.cell? ⟨w.heap.size, 5, none⟩ = some (.int .i64 f.x) ∧ w'.cell? ⟨w.heap.size, 6, none⟩ = some (.slice a f.T.length c)) w') := hide_ (fun w' hb => by
        have k := HK2.out.later hb
        exact ⟨(HM2.out.later hb).box.cell 0, k.cell 0, k.cell 1, k.cell 2, k.cell 3, k.cell 4, k.cell 5, k.cell 6⟩)
      clear hf hB12 j0 j1 j2 j3 j4 j5 j6 q0
      go_upto_region 5 with fail
      refine wp_region_last 13 (fun w' => w'.cell? ⟨g, 0, none⟩ = some (.slice (some ⟨gF, 0, none⟩) (Q.length + 1) cap) ∧ w'.cell? ⟨w.heap.size, 0, none⟩ = some (.int .i64 f.r) ∧ w'.cell? ⟨w.heap.size, 1, none⟩ = some (.int .i64 f.a) ∧ w'.cell? ⟨w.heap.size, 2, none⟩ = some (.int .i64 f.b) ∧ w'.cell? ⟨w.heap.size, 3, none⟩ = some (.int .i64 f.e) ∧ w'.cell? ⟨w.heap.size, 4, none⟩ = some (.int .i64 f.n) ∧ w'.cell? ⟨w.heap.size, 5, none⟩ = some (.int .i64 f.x) ∧ w'.cell? ⟨w.heap.size, 6, none⟩ = some (.slice a f.T.length c)) (by kernel_rfl) (HCl.out _ ((Below.refl w2.heap.size w2).drew)) (fun hHeld => ?_)
      refine wpAnyF_take [13] (by kernel_rfl) (i := 0) (v := ?vf1) rfl (by kernel_rfl) (by kernel_rfl) (by kernel_rfl) (fun _ _ _ h => h) (Or.inl ⟨by kernel_rfl, ?hyf1⟩) hHeld ?restf1
      case hyf1 => intro w' hSw; (try dsimp only at hSw); go_simp; try with_reducible rfl
      simp only [Act.put]
      try dsimp only
      refine wpAnyF_take [13] (by kernel_rfl) (i := 1) (v := ?vf2) rfl (by kernel_rfl) (by kernel_rfl) (by kernel_rfl) (fun _ _ _ h => h) (Or.inl ⟨by kernel_rfl, ?hyf2⟩) hHeld ?restf2
      case hyf2 => intro w' hSw; (try dsimp only at hSw); go_simp; try with_reducible rfl
      simp only [Act.put]
      try dsimp only
      refine wpAnyF_take [13] (by kernel_rfl) (i := 2) (v := ?vf3) rfl (by kernel_rfl) (by kernel_rfl) (by kernel_rfl) (fun _ _ _ h => h) (Or.inl ⟨by kernel_rfl, ?hyf3⟩) hHeld ?restf3
      case hyf3 => intro w' hSw; (try dsimp only at hSw); go_simp; try with_reducible rfl
      simp only [Act.put]
      try dsimp only
      refine wpAnyF_take [13] (by kernel_rfl) (i := 3) (v := ?vf4) rfl (by kernel_rfl) (by kernel_rfl) (by kernel_rfl) (fun _ _ _ h => h) (Or.inl ⟨by kernel_rfl, ?hyf4⟩) hHeld ?restf4
      case hyf4 => intro w' hSw; (try dsimp only at hSw); go_simp; try with_reducible rfl
      simp only [Act.put]
      try dsimp only
      refine wpAnyF_take [13] (by kernel_rfl) (i := 4) (v := ?vf5) rfl (by kernel_rfl) (by kernel_rfl) (by kernel_rfl) (fun _ _ _ h => h) (Or.inl ⟨by kernel_rfl, ?hyf5⟩) hHeld ?restf5
      case hyf5 => intro w' hSw; (try dsimp only at hSw); go_simp; try with_reducible rfl
      simp only [Act.put]
      try dsimp only
      refine wpAnyF_take [13] (by kernel_rfl) (i := 5) (v := ?vf6) rfl (by kernel_rfl) (by kernel_rfl) (by kernel_rfl) (fun _ _ _ h => h) (Or.inl ⟨by kernel_rfl, ?hyf6⟩) hHeld ?restf6
      case hyf6 => intro w' hSw; (try dsimp only at hSw); go_simp; try with_reducible rfl
      simp only [Act.put]
      try dsimp only
      refine wpAnyF_take [13] (by kernel_rfl) (i := 6) (v := ?vf7) rfl (by kernel_rfl) (by kernel_rfl) (by kernel_rfl) (fun _ _ _ h => h) (Or.inl ⟨by kernel_rfl, ?hyf7⟩) hHeld ?restf7
      case hyf7 => intro w' hSw; (try dsimp only at hSw); go_simp; try with_reducible rfl
      simp only [Act.put]
      try dsimp only
      refine wpAnyF_take [13] (by kernel_rfl) (i := 7) (v := ?vf8) rfl (by kernel_rfl) (by kernel_rfl) (by kernel_rfl) (fun _ _ _ h => h) (Or.inl ⟨by kernel_rfl, ?hyf8⟩) hHeld ?restf8
      case hyf8 => intro w' hSw; (try dsimp only at hSw); go_simp; try with_reducible rfl
      simp only [Act.put]
      try dsimp only
      refine wpAnyF_take [13] (by kernel_rfl) (i := 8) (v := ?vf9) rfl (by kernel_rfl) (by kernel_rfl) (by kernel_rfl) (fun _ _ _ h => h) (Or.inl ⟨by kernel_rfl, ?hyf9⟩) hHeld ?restf9
      case hyf9 => intro w' hSw; (try dsimp only at hSw); go_simp; try with_reducible rfl
      simp only [Act.put]
      try dsimp only
      refine wpAnyF_take [13] (by kernel_rfl) (i := 9) (v := ?vf10) rfl (by kernel_rfl) (by kernel_rfl) (by kernel_rfl) (fun _ _ _ h => h) (Or.inl ⟨by kernel_rfl, ?hyf10⟩) hHeld ?restf10
      case hyf10 => intro w' hSw; (try dsimp only at hSw); go_simp; try with_reducible rfl
      simp only [Act.put]
      try dsimp only
      refine wpAnyF_take [13] (by kernel_rfl) (i := 10) (v := ?vf11) rfl (by kernel_rfl) (by kernel_rfl) (by kernel_rfl) (fun _ _ _ h => h) (Or.inl ⟨by kernel_rfl, ?hyf11⟩) hHeld ?restf11
      case hyf11 => intro w' hSw; (try dsimp only at hSw); go_simp; try with_reducible rfl
      simp only [Act.put]
      try dsimp only
      refine wpAnyF_ready (rs := [11]) (by kernel_rfl) (by simp) ?_
      refine AllReadyF.cons rfl (fun K hK => ?_) AllReadyF.nil
      go_simp
      refine HC.out.mono ?_
      rintro e w3 ⟨a3, c3, rfl, HI3, HB3⟩
      have hb3 : Below w2.heap.size w2 w3 := below_to ((Below.refl w2.heap.size w2).drew) HB3.out
      have hM3 := HM2.out.later hb3
      have HM3 := hide_ hM3
      obtain ⟨gF', cap', he, -, -, -, -, hc, hz, -⟩ := hM3.own.last
      injection he with he1 he2 he3
      injection he1 with he1
      injection he1 with he1 _ _
      subst he1
      have i0 := hc 0 (by decide); have i1 := hc 1 (by decide); have i2 := hc 2 (by decide); have i3 := hc 3 (by decide); have i4 := hc 4 (by decide); have i5 := hc 5 (by decide); have i6 := hc 6 (by decide)
      have y0 := hz (Q.length * 7); have y1 := hz (Q.length * 7 + 1); have y2 := hz (Q.length * 7 + 2); have y3 := hz (Q.length * 7 + 3); have y4 := hz (Q.length * 7 + 4); have y5 := hz (Q.length * 7 + 5); have y6 := hz (Q.length * 7 + 6)
      simp [frc] at i0 i1 i2 i3 i4 i5 i6
      have HS3 := hide_ (HCl.out w3 hb3)
      have HB3 := hide_ hb3
      clear hM3 hc hz he3 hb3
      dsimp only
      refine hK.out _ _ (HS3.out) (fun hHeld => ?_)
      clear hK K
      refine wpAnyF_take [13] (by kernel_rfl) (i := 12) (v := ?vf12) rfl (by kernel_rfl) (by kernel_rfl) (by kernel_rfl) (fun _ _ _ h => h) (Or.inl ⟨by kernel_rfl, ?hyf12⟩) hHeld ?restf12
      case hyf12 => intro w' hSw; (try dsimp only at hSw); go_simp; try with_reducible rfl
      simp only [Act.put]
      try dsimp only
      refine wpAnyF_ready (rs := [13]) (by kernel_rfl) (by simp) ?_
      refine AllReadyF.last rfl (fun K hK => ?_)
      go_simp
      refine hK.out _ _ ?_
      clear hK K
      refine wpAnyF_done (by kernel_rfl) ?_ _
      rw [s7p]
      go_wp2_with fail
      go_ret
      refine .inr (.inr ⟨Q.map (·.1), p.1, by rw [← HPm.out, List.map_append]; rfl, HFf.out, rfl, ?_⟩)
      have hs2 : w.heap.size ≤ w2.heap.size := HB2.out.size
      exact HM3.out.setLast (Upd.of_below (below_to HB2.out HB3.out)) HF.out HFl.out hBw f (.slice a3 f.T.length c3) (own_base HI3.out (by have : w2.drew.heap.size = w2.heap.size := rfl; omega)) (fun k hk => .inl (by have := (HI3.out.lies hk).1; have : w2.drew.heap.size = w2.heap.size := rfl; omega)) HFf.out
end Go.Proofs.Ytcmkdkocponpiaa

/- mortiseref22: Push. -/
namespace Go.Proofs.Ytcmkdkocponpiaa
open Go.RowKit
set_option linter.unusedVariables false

/-- What Push answers. -/
def RPushTo (w : World) (B : Nat) (F : Nat → Prop) (g : Nat) (fs : List Fr) (m h : Int) (f : Fr) (e : Ending) (w' : World) : Prop :=
  ((fs.length : Int) = m ∧ e = .returned (.int .i64 220) ∧ RSkTo w B F w' g fs m h) ∨
  ((fs.length : Int) < m ∧ frB f = false ∧ e = .returned (.int .i64 3) ∧ RSkTo w B F w' g fs m h) ∨
  ((fs.length : Int) < m ∧ frB f = true ∧ e = .returned (.int .i64 0) ∧ RSkTo w B F w' g (fs ++ [f]) m (max h (fs.length + 1)))
set_option maxRecDepth 100000 in
set_option maxHeartbeats 16000000 in
theorem rpush_any (w : World) (B : Nat) (F : Nat → Prop) (g : Nat) (fs : List Fr) (m h : Int) (f : Fr) (a : Option Addr) (c : Nat) (hS : Hid (RSk w B F g fs m h)) (hA : Hid (FrA w f a c)) (hBw : B ≤ w.heap.size) :
    Calls Try.prog 55 #[.pointer (some ⟨g, 0, none⟩), .agg #[.int .i64 f.r, .int .i64 f.a, .int .i64 f.b, .int .i64 f.e, .int .i64 f.n, .int .i64 f.x, .slice a f.T.length c]] w fun e w' => RPushTo w B F g fs m h f e w' := by
  obtain ⟨v, P, hM, hP, hF, hFl⟩ := hS.out
  have HF := hide_ hF
  have HFl := hide_ hFl
  have HS := hS
  obtain ⟨av, cv, rfl, hcv, -, -⟩ := hM.own.slice
  obtain ⟨w1, hw1⟩ : ∃ wx, wx = w.alloc (.cells #[.int .i64 f.r, .int .i64 f.a, .int .i64 f.b, .int .i64 f.e, .int .i64 f.n, .int .i64 f.x, .slice a f.T.length c] 39) := ⟨_, rfl⟩
  have hB1 : Below w.heap.size w w1 := by rw [hw1]; exact below1 _ _
  have k1 : Blk w1 w.heap.size 39 (frc (f, .slice a f.T.length c)) := by rw [hw1]; exact Blk.newA w _ _
  have HPl : Hid (fs.length = P.length) := hide_ (by rw [← hP]; simp)
  have HPm := hide_ hP
  have HM := hide_ hM
  have hl := hM.hl
  have hmm := hM.hm.2
  have HM1 := hide_ (hM.later hB1)
  have HK1 := hide_ k1
  have HB1 := hide_ hB1
  have HA1 := hide_ (hA.out.later hB1)
  have j0 := k1.cell 0; have j1 := k1.cell 1; have j2 := k1.cell 2; have j3 := k1.cell 3; have j4 := k1.cell 4; have j5 := k1.cell 5; have j6 := k1.cell 6
  have q0 := HM1.out.box.cell 0; have q1 := HM1.out.box.cell 1
  simp [frc] at j0 j1 j2 j3 j4 j5 j6 q0 q1
  clear hP hF hFl hM hS k1 hB1 hA hcv
  go_enter Try.func55, Try.ntmps55
  go_upto_region 1 with fail
  rw [← hw1]
  clear hw1
  by_cases hm : (P.length : Int) = m
  · have hm' : decide (m ≤ (P.length : Int)) = true := decide_eq_true (by omega)
    have HE := hide_ hm
    clear hm
    go_region
    go_wp2_with fail
    go_ret
    exact .inl ⟨by rw [HPl.out]; exact HE.out, rfl, HS.out.same (HB1.out.trans (below_drewN (Below.refl w1.heap.size w1) 1 |>.mono HB1.out.size))⟩
  · have hm' : decide (m ≤ (P.length : Int)) = false := decide_eq_false (by omega)
    have hlt : (P.length : Int) < m := by omega
    clear hm
    have HRi := hide_ (fun w' h => rright_any f a c w' h)
    go_region
    go_wp2_with fail
    refine (rright_any f a c _ (hide_ ⟨HA1.out.1.drew, HA1.out.2⟩)).mono ?_
    rintro e w2 ⟨rfl, hB2⟩
    have hB12 : Below w1.heap.size w1 w2 := below_to ((Below.refl w1.heap.size w1).drew) hB2
    cases hf : frB f with
    | false =>
      have HFf := hide_ hf
      have HB2 := hide_ (below_to HB1.out hB12)
      clear hf hB2 hB12
      go_wp2_with fail
      go_ret
      exact .inr (.inl ⟨by rw [HPl.out]; exact hlt, HFf.out, rfl, HS.out.same HB2.out⟩)
    | true =>
      have HFf := hide_ hf
      have HT : Hid (f.T.length ≤ 1048576) := hide_ (frB_is hf).1
      have HM2 := hide_ (HM1.out.later hB12)
      have HK2 := hide_ (HK1.out.later hB12)
      have HA2 := hide_ (HA1.out.later hB12)
      have HB2 := hide_ (below_to HB1.out hB12)
      have HC := hide_ (own_any f a c w2.drew (hide_ ⟨HA2.out.1.drew, HA2.out.2⟩) (by have := HT.out; omega))
      have HLb : Hid (∀ k, (Value.slice av P.length cv).ownBlock = some k → k < w.heap.size) := hide_ (fun k hk => (HM.out.own.row.lt k hk).2)
      have HLt : Hid (∀ p ∈ P, ∀ k, p.2.ownBlock = some k → k < w.heap.size) := hide_ (fun p hp k hk => ((HM.out.own.tb p hp).lies hk).2)
      have HS1 : Hid ((fun w' => w'.cell? ⟨w.heap.size, 0, none⟩ = some (.int .i64 f.r) ∧ w'.cell? ⟨w.heap.size, 1, none⟩ = some (.int .i64 f.a) ∧ w'.cell? ⟨w.heap.size, 2, none⟩ = some (.int .i64 f.b) ∧ w'.cell? ⟨w.heap.size, 3, none⟩ = some (.int .i64 f.e) ∧ w'.cell? ⟨w.heap.size, 4, none⟩ = some (.int .i64 f.n) ∧ w'.cell? ⟨w.heap.size, 5, none⟩ = some (.int .i64 f.x) ∧ w'.cell? ⟨w.heap.size, 6, none⟩ = some (.slice a f.T.length c) ∧ w'.cell? ⟨g, 0, none⟩ = some (.slice av P.length cv)) w2.drew) := hide_ (by
        have k := HK2.out.drew
        have b := HM2.out.box.drew
        exact ⟨k.cell 0, k.cell 1, k.cell 2, k.cell 3, k.cell 4, k.cell 5, k.cell 6, b.cell 0⟩)
      clear hf hB2 hB12 j0 j1 j2 j3 j4 j5 j6 q0 q1 hm'
      go_wp2_with fail
      refine wp_region_last 11 (fun w' => w'.cell? ⟨w.heap.size, 0, none⟩ = some (.int .i64 f.r) ∧ w'.cell? ⟨w.heap.size, 1, none⟩ = some (.int .i64 f.a) ∧ w'.cell? ⟨w.heap.size, 2, none⟩ = some (.int .i64 f.b) ∧ w'.cell? ⟨w.heap.size, 3, none⟩ = some (.int .i64 f.e) ∧ w'.cell? ⟨w.heap.size, 4, none⟩ = some (.int .i64 f.n) ∧ w'.cell? ⟨w.heap.size, 5, none⟩ = some (.int .i64 f.x) ∧ w'.cell? ⟨w.heap.size, 6, none⟩ = some (.slice a f.T.length c) ∧ w'.cell? ⟨g, 0, none⟩ = some (.slice av P.length cv)) (by kernel_rfl) (HS1.out) (fun hHeld => ?_)
      refine wpAnyF_take [11] (by kernel_rfl) (i := 0) (v := ?vp1) rfl (by kernel_rfl) (by kernel_rfl) (by kernel_rfl) (fun _ _ _ h => h) (Or.inl ⟨by kernel_rfl, ?hyp1⟩) hHeld ?restp1
      case hyp1 => intro w' hSw; (try dsimp only at hSw); go_simp; try with_reducible rfl
      simp only [Act.put]
      try dsimp only
      refine wpAnyF_take [11] (by kernel_rfl) (i := 1) (v := ?vp2) rfl (by kernel_rfl) (by kernel_rfl) (by kernel_rfl) (fun _ _ _ h => h) (Or.inl ⟨by kernel_rfl, ?hyp2⟩) hHeld ?restp2
      case hyp2 => intro w' hSw; (try dsimp only at hSw); go_simp; try with_reducible rfl
      simp only [Act.put]
      try dsimp only
      refine wpAnyF_take [11] (by kernel_rfl) (i := 2) (v := ?vp3) rfl (by kernel_rfl) (by kernel_rfl) (by kernel_rfl) (fun _ _ _ h => h) (Or.inl ⟨by kernel_rfl, ?hyp3⟩) hHeld ?restp3
      case hyp3 => intro w' hSw; (try dsimp only at hSw); go_simp; try with_reducible rfl
      simp only [Act.put]
      try dsimp only
      refine wpAnyF_take [11] (by kernel_rfl) (i := 3) (v := ?vp4) rfl (by kernel_rfl) (by kernel_rfl) (by kernel_rfl) (fun _ _ _ h => h) (Or.inl ⟨by kernel_rfl, ?hyp4⟩) hHeld ?restp4
      case hyp4 => intro w' hSw; (try dsimp only at hSw); go_simp; try with_reducible rfl
      simp only [Act.put]
      try dsimp only
      refine wpAnyF_take [11] (by kernel_rfl) (i := 4) (v := ?vp5) rfl (by kernel_rfl) (by kernel_rfl) (by kernel_rfl) (fun _ _ _ h => h) (Or.inl ⟨by kernel_rfl, ?hyp5⟩) hHeld ?restp5
      case hyp5 => intro w' hSw; (try dsimp only at hSw); go_simp; try with_reducible rfl
      simp only [Act.put]
      try dsimp only
      refine wpAnyF_take [11] (by kernel_rfl) (i := 5) (v := ?vp6) rfl (by kernel_rfl) (by kernel_rfl) (by kernel_rfl) (fun _ _ _ h => h) (Or.inl ⟨by kernel_rfl, ?hyp6⟩) hHeld ?restp6
      case hyp6 => intro w' hSw; (try dsimp only at hSw); go_simp; try with_reducible rfl
      simp only [Act.put]
      try dsimp only
      refine wpAnyF_ready (rs := [6]) (by kernel_rfl) (by simp) ?_
      refine AllReadyF.cons rfl (fun K hK => ?_) AllReadyF.nil
      go_simp
      refine HC.out.mono ?_
      rintro e w3 ⟨a3, c3, rfl, HI3, HB3⟩
      have HI3 := HI3
      have hb3 : Below w2.heap.size w2 w3 := below_to ((Below.refl w2.heap.size w2).drew) HB3.out
      have HM3 := hide_ (HM2.out.later hb3)
      have HK3 := hide_ (HK2.out.later hb3)
      have hsz2 : w.heap.size ≤ w2.heap.size := HB2.out.size
      have hsz3 : w2.heap.size ≤ w3.heap.size := hb3.size
      obtain ⟨gF, cap, w4, hr, ho, hu, hgF⟩ := HM3.out.own.push f (own_base HI3.out (by show B ≤ w2.heap.size; omega)) (fun p hp k hk h2 => by
        have h3 := HLt.out p hp k hk
        have h4 : w2.heap.size ≤ k := (HI3.out.lies h2).1
        omega) (by omega) (by omega)
      have HR := hide_ hr
      have HO4 := hide_ ho
      have HU4 := hide_ hu
      have HgF := hide_ hgF
      have HK4 := hide_ (HK3.out.upd hu (fun e => by have := HLb.out _ e; omega))
      have HG5 := hide_ (HM3.out.box.upd hu (fun e => HM3.out.own.rowNe HM3.out.box (by decide) e))
      have HS3 : Hid ((fun w' => w'.cell? ⟨w.heap.size, 0, none⟩ = some (.int .i64 f.r) ∧ w'.cell? ⟨w.heap.size, 1, none⟩ = some (.int .i64 f.a) ∧ w'.cell? ⟨w.heap.size, 2, none⟩ = some (.int .i64 f.b) ∧ w'.cell? ⟨w.heap.size, 3, none⟩ = some (.int .i64 f.e) ∧ w'.cell? ⟨w.heap.size, 4, none⟩ = some (.int .i64 f.n) ∧ w'.cell? ⟨w.heap.size, 5, none⟩ = some (.int .i64 f.x) ∧ w'.cell? ⟨w.heap.size, 6, none⟩ = some (.slice a f.T.length c) ∧ w'.cell? ⟨g, 0, none⟩ = some (.slice av P.length cv)) w3) := hide_ ⟨HK3.out.cell 0, HK3.out.cell 1, HK3.out.cell 2, HK3.out.cell 3, HK3.out.cell 4, HK3.out.cell 5, HK3.out.cell 6, HM3.out.box.cell 0⟩
      have HS4 : Hid ((fun w' => w'.cell? ⟨w.heap.size, 0, none⟩ = some (.int .i64 f.r) ∧ w'.cell? ⟨w.heap.size, 1, none⟩ = some (.int .i64 f.a) ∧ w'.cell? ⟨w.heap.size, 2, none⟩ = some (.int .i64 f.b) ∧ w'.cell? ⟨w.heap.size, 3, none⟩ = some (.int .i64 f.e) ∧ w'.cell? ⟨w.heap.size, 4, none⟩ = some (.int .i64 f.n) ∧ w'.cell? ⟨w.heap.size, 5, none⟩ = some (.int .i64 f.x) ∧ w'.cell? ⟨w.heap.size, 6, none⟩ = some (.slice a f.T.length c) ∧ w'.cell? ⟨g, 0, none⟩ = some (.slice av P.length cv)) (w3.alloc (.cells #[.int .i64 f.r, .int .i64 f.a, .int .i64 f.b, .int .i64 f.e, .int .i64 f.n, .int .i64 f.x, .slice a3 f.T.length c3] 39))) := hide_ ⟨(HK3.out.alloc _).cell 0, (HK3.out.alloc _).cell 1, (HK3.out.alloc _).cell 2, (HK3.out.alloc _).cell 3, (HK3.out.alloc _).cell 4, (HK3.out.alloc _).cell 5, (HK3.out.alloc _).cell 6, (HM3.out.box.alloc _).cell 0⟩
      have HS5 : Hid ((fun w' => w'.cell? ⟨w.heap.size, 0, none⟩ = some (.int .i64 f.r) ∧ w'.cell? ⟨w.heap.size, 1, none⟩ = some (.int .i64 f.a) ∧ w'.cell? ⟨w.heap.size, 2, none⟩ = some (.int .i64 f.b) ∧ w'.cell? ⟨w.heap.size, 3, none⟩ = some (.int .i64 f.e) ∧ w'.cell? ⟨w.heap.size, 4, none⟩ = some (.int .i64 f.n) ∧ w'.cell? ⟨w.heap.size, 5, none⟩ = some (.int .i64 f.x) ∧ w'.cell? ⟨w.heap.size, 6, none⟩ = some (.slice a f.T.length c) ∧ w'.cell? ⟨g, 0, none⟩ = some (.slice av P.length cv)) w4) := hide_ ⟨HK4.out.cell 0, HK4.out.cell 1, HK4.out.cell 2, HK4.out.cell 3, HK4.out.cell 4, HK4.out.cell 5, HK4.out.cell 6, HG5.out.cell 0⟩
      have HG6 := hide_ (HG5.out.set 0 (.slice (some ⟨gF, 0, none⟩) (P.length + 1) cap))
      clear hr ho hu hgF hb3 hsz2 hsz3
      dsimp only
      refine hK.out _ _ (HS3.out) (fun hHeld => ?_)
      clear hK K
      refine wpAnyF_ready (rs := [7]) (by kernel_rfl) (by simp) ?_
      refine AllReadyF.cons rfl (fun K hK => ?_) AllReadyF.nil
      go_simp
      refine hK.out _ _ (HS4.out) (fun hHeld => ?_)
      clear hK K
      refine wpAnyF_ready (rs := [8]) (by kernel_rfl) (by simp) ?_
      refine AllReadyF.cons rfl (fun K hK => ?_) AllReadyF.nil
      refine step_append_run rfl (.tmp 22) (.tmp 25) 22 22 rfl (v := .slice av P.length cv) (u := .slice (some ⟨w3.heap.size, 0, none⟩) 1 1) (by kernel_rfl) (by kernel_rfl) HR.out ?_
      simp only [Act.put]
      refine hK.out _ _ (HS5.out) (fun hHeld => ?_)
      clear hK K
      refine wpAnyF_take [11, 10] (by kernel_rfl) (i := 9) (v := ?vp7) rfl (by kernel_rfl) (by kernel_rfl) (by kernel_rfl) (fun _ _ _ h => h) (Or.inl ⟨by kernel_rfl, ?hyp7⟩) hHeld ?restp7
      case hyp7 => intro w' hSw; (try dsimp only at hSw); go_simp; try with_reducible rfl
      simp only [Act.put]
      try dsimp only
      refine wpAnyF_take [11] (by kernel_rfl) (i := 10) (v := ?vp8) rfl (by kernel_rfl) (by kernel_rfl) (by kernel_rfl) (fun _ _ _ h => h) (Or.inl ⟨by kernel_rfl, ?hyp8⟩) hHeld ?restp8
      case hyp8 => intro w' hSw; (try dsimp only at hSw); go_simp; try with_reducible rfl
      simp only [Act.put]
      try dsimp only
      refine wpAnyF_ready (rs := [11]) (by kernel_rfl) (by simp) ?_
      refine AllReadyF.last rfl (fun K hK => ?_)
      have q1 := HG5.out.cell 0; have qz := HG5.out.frozen 0
      simp at q1
      go_simp
      refine hK.out _ _ ?_
      clear hK K
      refine wpAnyF_done (by kernel_rfl) ?_ _
      have HEND : Hid (∀ x, x = max h ((fs.length : Int) + 1) → RSkTo w B F ((w4.setCell ⟨g, 0, none⟩ (.slice (some ⟨gF, 0, none⟩) (P.length + 1) cap)).setCell ⟨g, 2, none⟩ (.int .i64 x)).drew g (fs ++ [f]) m (max h ((fs.length : Int) + 1))) := hide_ (fun x hx => by
        have hb3 : Below w2.heap.size w2 w3 := below_to ((Below.refl w2.heap.size w2).drew) HB3.out
        have hFg : F g := HF.out g (.inl rfl)
        have hu0 : Upd F w w3 := Upd.of_below (below_to HB2.out hb3)
        have hu1 : Upd F w w4 := hu0.trans HU4.out (fun k _ hk => HF.out k (.inr (.inl hk)))
        have hu2 := (hu1.set ⟨g, 0, none⟩ (.slice (some ⟨gF, 0, none⟩) (P.length + 1) cap) (.inl hFg)).set ⟨g, 2, none⟩ (.int .i64 x) (.inl hFg)
        have hu3 := hu2.drew
        have hg1 := ((Upd.refl (fun k => k = g) w4).set ⟨g, 0, none⟩ (.slice (some ⟨gF, 0, none⟩) (P.length + 1) cap) (.inl rfl)).set ⟨g, 2, none⟩ (.int .i64 x) (.inl rfl)
        have hg2 := hg1.drew
        have hsz3 : w.heap.size ≤ w2.heap.size := HB2.out.size
        have hsz4 : w2.heap.size ≤ w3.heap.size := hb3.size
        have hM5 : RSt ((w4.setCell ⟨g, 0, none⟩ (.slice (some ⟨gF, 0, none⟩) (P.length + 1) cap)).setCell ⟨g, 2, none⟩ (.int .i64 x)).drew B g (.slice (some ⟨gF, 0, none⟩) (P.length + 1) cap) (P ++ [(f, .slice a3 f.T.length c3)]) m x := by
          refine ⟨((HG5.out.set 0 _).set 2 _).drew, HO4.out.upd hg2 (fun k hk e => ?_) (fun p hp k hk e => ?_), HM.out.bg, HM.out.hm, ?_, ?_, fun p hp => ?_⟩
          · subst e; exact HO4.out.rowNe HG5.out (by decide) hk
          · subst e; exact HO4.out.tbNe HG5.out (by decide) p hp hk
          · rw [List.length_append, List.length_singleton]; omega
          · have := HM.out.hh
            rw [List.length_append, List.length_singleton]
            rw [HPl.out] at hx
            omega
          · rcases List.mem_append.1 hp with hp | hp
            · exact HM.out.rt p hp
            · simp only [List.mem_singleton] at hp
              subst hp
              exact HFf.out
        have hto := hM5.to hu3 hBw HFl.out (fun k hk => by
          rcases hk with rfl | hk | ⟨p, hp, hk⟩
          · exact .inl hFg
          · have hk' : gF = k := own_is hk
            subst hk'
            rcases HgF.out with h1 | h1
            · exact .inl (HF.out _ (.inr (.inl h1)))
            · exact .inr (by omega)
          · rcases List.mem_append.1 hp with hp | hp
            · exact .inl (HF.out k (.inr (.inr ⟨p, hp, hk⟩)))
            · simp only [List.mem_singleton] at hp
              subst hp
              have h4 : w2.heap.size ≤ k := (HI3.out.lies hk).1
              exact .inr (by omega))
        rw [List.map_append, HPm.out] at hto
        rw [← hx]
        exact hto)
      have q2 := HG6.out.cell 0; have q3 := HG6.out.cell 2; have z3 := HG6.out.frozen 2
      simp at q2 q3
      go_wp2_with fail
      go_region
      go_wp2_with fail
      all_goals go_ret
      all_goals exact .inr (.inr ⟨by rw [HPl.out]; exact hlt, HFf.out, rfl, HEND.out _ (by rw [HPl.out]; omega)⟩)
end Go.Proofs.Ytcmkdkocponpiaa

/- mortiseref22: Slot. -/
namespace Go.Proofs.Ytcmkdkocponpiaa
open Go.RowKit
set_option linter.unusedVariables false

set_option maxRecDepth 100000 in
set_option maxHeartbeats 16000000 in
theorem rslot_any (w : World) (B : Nat) (F : Nat → Prop) (g : Nat) (fs : List Fr) (m h : Int) (k : Int) (hS : Hid (RSk w B F g fs m h)) :
    Calls Try.prog 62 #[.pointer (some ⟨g, 0, none⟩), .int .i64 k] w fun e w' => SlotTo w fs k e w' := by
  have HSl := hide_ (rslots_any w B F g fs m h hS)
  obtain ⟨v, P, hM, hP, hF, hFl⟩ := hS.out
  have HPm := hide_ hP
  clear hS hF hFl hP
  rcases List.eq_nil_or_concat P with rfl | ⟨Q, p, rfl⟩
  · obtain ⟨av, cv, rfl, -⟩ := hM.own.slice
    have q0 := hM.box.cell 0
    simp at q0
    clear hM
    go_enter Try.func62, Try.ntmps62
    go_wp2_with fail
    go_ret2
    exact .inl ⟨HPm.out.symm, rfl, Below.refl _ _⟩
  · rw [List.concat_eq_append] at hM HPm
    obtain ⟨gF, cap, rfl, hn, hm, hbg, hlt, hc, hz, hbk⟩ := hM.own.last
    obtain ⟨f, pv⟩ := p
    obtain ⟨at_, ct, hpv, hfa⟩ := (hM.own.tb (f, pv) (List.mem_append_right _ (List.mem_singleton.2 rfl))).fra
    have hpv' : pv = .slice at_ f.T.length ct := hpv
    subst hpv'
    have hrt := (frB_is (hM.rt (f, .slice at_ f.T.length ct) (List.mem_append_right _ (List.mem_singleton.2 rfl)))).1
    have hrt' : f.T.length ≤ 1048576 := hrt
    unfold maxLen at hm
    have HE : Hid (lastT fs = f.T) := hide_ (by rw [← HPm.out, List.map_append]; exact lastT_app _ _)
    have HN : Hid (fs ≠ []) := hide_ (by rw [← HPm.out]; simp)
    rw [HE.out] at HSl
    have HM := hide_ hM
    have HFA := hide_ hfa
    have q0 := hM.box.cell 0
    simp at q0
    have hq0 : ((Q.length : Int) + 1 == 0) = false := by simp; omega
    have hqi := i64w (Q.length : Int) (by omega)
    have hqlt : (Q.length : Int) < (Q.length : Int) + 1 := by omega
    have hwn := i64w ((f.T.length : Int) - 1) (by omega)
    clear hM hc hz hbk hfa hn hm hbg hlt hrt hrt'
    by_cases hk : 0 ≤ k ∧ k < f.T.length
    · obtain ⟨h0, h1⟩ := hk
      obtain ⟨j, rfl⟩ := Int.eq_ofNat_of_zero_le h0
      have hj : j < f.T.length := by omega
      have HIn : Hid (∀ w', Calls Try.prog 53 #[.int .i64 (j : Int), .int .i64 0, .int .i64 ((f.T.length : Int) - 1)] w' fun e w'' => e = .returned (.bool true) ∧ w' = w'') := hide_ (fun w' => by
        have h := in_any (j : Int) 0 ((f.T.length : Int) - 1) w'
        have e : inB (j : Int) 0 ((f.T.length : Int) - 1) = true := by simp [inB]; omega
        rw [e] at h
        exact h)
      have HX : Hid ((j : Int) < (lastT fs).length) := hide_ (by rw [HE.out]; exact h1)
      clear h0
      go_enter Try.func62, Try.ntmps62
      go_wp2_with fail
      refine HSl.out.mono ?_
      rintro e w2 ⟨rfl, hB2⟩
      have hM2 := HM.out.later hB2
      have q0' := hM2.box.cell 0
      simp at q0'
      obtain ⟨gF', cap', he, -, -, -, -, hc, -, -⟩ := hM2.own.last
      injection he with he1 he2 he3
      injection he1 with he1
      injection he1 with he1 _ _
      subst he1
      have i6 := hc 6 (by decide)
      simp [frc] at i6
      obtain ⟨b, o, rfl, hb, hcl⟩ := Row.open (HFA.out.later hB2).1 (show 0 < f.T.length by omega)
      have hcell := hcl j hj
      obtain ⟨y, hy⟩ : ∃ y, f.T.getD j 0 = y := ⟨_, rfl⟩
      have HY := hide_ hy
      rw [hy] at hcell
      have HB2 := hide_ hB2
      clear hcl hy hc he3 hM2 hB2 q0
      go_wp2_with (go_at_call 53; refine (HIn.out _).mono ?_; rintro e w' ⟨rfl, rfl⟩)
      go_region
      go_wp2_with fail
      go_ret2
      exact .inr (.inr ⟨HN.out, by omega, HX.out, by rw [HE.out, Int.toNat_natCast, HY.out]; rfl, HB2.out.trans ((Below.refl w2.heap.size w2).drew.mono HB2.out.size)⟩)
    · have HIn : Hid (∀ w', Calls Try.prog 53 #[.int .i64 k, .int .i64 0, .int .i64 ((f.T.length : Int) - 1)] w' fun e w'' => e = .returned (.bool false) ∧ w' = w'') := hide_ (fun w' => by
        have h := in_any k 0 ((f.T.length : Int) - 1) w'
        have e : inB k 0 ((f.T.length : Int) - 1) = false := by
          cases hb : inB k 0 ((f.T.length : Int) - 1) with
          | false => rfl
          | true =>
            simp [inB] at hb
            exact absurd ⟨hb.1, by omega⟩ hk
        rw [e] at h
        exact h)
      have HX : Hid (¬ (0 ≤ k ∧ k < (lastT fs).length)) := hide_ (by rw [HE.out]; exact hk)
      clear hk
      go_enter Try.func62, Try.ntmps62
      go_wp2_with fail
      refine HSl.out.mono ?_
      rintro e w2 ⟨rfl, hB2⟩
      have HB2 := hide_ hB2
      clear hB2 q0
      go_wp2_with (go_at_call 53; refine (HIn.out _).mono ?_; rintro e w' ⟨rfl, rfl⟩)
      go_ret2
      exact .inr (.inl ⟨HN.out, HX.out, rfl, HB2.out⟩)
end Go.Proofs.Ytcmkdkocponpiaa
