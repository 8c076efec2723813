import Derived.Test.YtlbgdgobhiokpaaDoorPart12
import Derived.Test.YtlbgdgobhiokpaaDoorPart11
import Derived.Test.YtlbgdgobhiokpaaDoorPart13
import Derived.Lib.AtoiErrMem

/- The document's kids, over value. -/
namespace Go.Proofs.YtlbgdgobhiokpaaDoor
open Go.RowKit
set_option linter.unusedVariables false

def KidD (B : Nat) (w w' : World) (b : Nat) (s : ByteArray) (p : Nat) (base : List Nd) (k n : Int) (V : Nat × Option (Nat × List Nd)) : Prop :=
  match V with
  | (q, none) => ∃ vn' N', base.length + 1 ≤ N'.length ∧ N'.length ≤ q ∧ q ≤ s.size ∧ RdD B w' b s q vn' N' true ∧ KeptD B w w'
  | (q, some (j, L)) => ∃ vn', p < q ∧ base.length + 1 + L.length ≤ q ∧ q ≤ s.size ∧ RdD B w' b s q vn' (base ++ (k, n, (j : Int)) :: L) false ∧ KeptD B w w'
def RdV (B b : Nat) (s : ByteArray) (f : Nat) : Prop := ∀ (p : Nat) (vn : Value) (N : List Nd) (w : World), Hid (RdD B w b s p vn N false) → p ≤ s.size → N.length ≤ p → s.size < p + f → Calls Tryd.prog 76 #[.pointer (some ⟨b, 0, none⟩)] w fun e w' => e = .returned (.tuple #[]) ∧ Hid (ValD B w w' b s p N (valP (tx s) f p))
/-- Kids so far, or a text that can't go on. -/
def KLoop (B b f : Nat) (s : ByteArray) (base : List Nd) (k n most shut : Int) (p0 : Nat) (w wr : World) (R : Nat × Option (Nat × List Nd)) (q : Nat) (bd : Bool) : Prop :=
  KeptD B w wr ∧ q ≤ s.size ∧ p0 ≤ q ∧ ((bd = false ∧ ∃ (g j : Nat) (acc : List Nd) (vn : Value), s.size < q + g ∧ s.size < q + f ∧ j < q ∧ base.length + 1 + acc.length ≤ q ∧ kidP (valP (tx s) f) (tx s) most shut g q j acc = R ∧ RdD B wr b s q vn (base ++ (k, n, (j : Int)) :: acc) false) ∨
    (bd = true ∧ ∃ (vn : Value) (N' : List Nd), base.length + 1 ≤ N'.length ∧ N'.length ≤ q ∧ R = (q, none) ∧ RdD B wr b s q vn N' true))
theorem set_at (base : List Nd) (x y : Nd) (acc : List Nd) : (base ++ x :: acc).set base.length y = base ++ y :: acc := by
  rw [List.set_append_right _ _ (Nat.le_refl _), Nat.sub_self]
  rfl
theorem takeW_lt (t : List Int) (c : Int) (p : Nat) (hp : p ≤ t.length) : p ≤ (takeW t p [c]).1 ∧ (takeW t p [c]).1 ≤ t.length := takeW_le t [c] p hp
theorem ext_bool {a b : Bool} (h : a = b) : (!a) = (!b) := by rw [h]
set_option maxRecDepth 100000 in
set_option maxHeartbeats 16000000 in
theorem kidsD_any (B b f : Nat) (k n most shut : Int) (s word : ByteArray) (base : List Nd) (p0 : Nat) (vn0 : Value) (w : World) (hsh : (shut = 93 ∧ word = ⟨#[93]⟩) ∨ (shut = 125 ∧ word = ⟨#[125]⟩)) (hm0 : 1 ≤ most) (hm1 : most ≤ 2000000) (hs : s.size ≤ 1048576)
    (hR : Hid (RdD B w b s p0 vn0 (base ++ [(k, n, 0)]) false)) (hp : p0 ≤ s.size) (hl : base.length + 1 ≤ p0) (hf : s.size < p0 + f) (HV : Hid (RdV B b s f)) :
    Calls Tryd.prog 86 #[.pointer (some ⟨b, 0, none⟩), .int .i64 (base.length : Int), .int .i64 most, .int .u8 shut] w fun e w' => e = .returned (.tuple #[]) ∧ Hid (KidD B w w' b s p0 base k n (kidP (valP (tx s) f) (tx s) most shut f p0 0 [])) := by
  obtain ⟨R, HRR⟩ : ∃ R, Hid (kidP (valP (tx s) f) (tx s) most shut f p0 0 [] = R) := ⟨_, rfl⟩
  rw [HRR.out]
  go_enter Tryd.func86, Tryd.ntmps86
  go_wp2_with fail
  go_loopw [] (fun wr => ∃ (q : Nat) (bd : Bool), wr.cell? ⟨b, 1, none⟩ = some (.int .i64 q) ∧ q ≤ s.size ∧ wr.cell? ⟨b, 3, none⟩ = some (.bool bd) ∧ Hid (KLoop B b f s base k n most shut p0 w wr R q bd)) (fun wr => match wr.cell? ⟨b, 1, none⟩ with | some (.int _ i) => s.size - i.toNat | _ => 0)
  case atStart => exact ⟨p0, false, hR.out.c1, hp, hR.out.c3, KeptD.refl _ _, hp, Nat.le_refl _, .inl ⟨rfl, f, 0, [], vn0, hf, hf, by omega, by simpa using hl, HRR.out, hR.out⟩⟩
  case round =>
    clear hR HRR
    obtain ⟨q, bd, c1, hq, c3, HKL⟩ := hrel
    obtain ⟨hK, -, hpq, ⟨rfl, g, j, acc, vn, hg, hgf, hj, hacc, hkid, hRd⟩ | ⟨rfl, vn, N', hN1, hN2, hRe, hRd⟩⟩ := HKL.out
    · obtain ⟨g, rfl⟩ : ∃ g', g = g' + 1 := ⟨g - 1, by omega⟩
      rw [kidP] at hkid
      have HRd : Hid _ := hRd
      have HK : Hid _ := hK
      clear HKL hRd hK
      have hcall := HV.out q vn _ wr HRd hq (by simp; omega) hgf
      obtain ⟨p', ov, hvp⟩ : ∃ p' ov, valP (tx s) f q = (p', ov) := ⟨_, _, rfl⟩
      rw [hvp] at hcall hkid
      clear hvp
      cases ov with
      | none =>
        have hkid' : (p', none) = R := hkid
        subst hkid'
        have HC : Hid _ := hide_ hcall
        clear hkid hcall
        go_wp2_with fail
        refine HC.out.mono ?_
        rintro _ w1 ⟨rfl, HVD⟩
        obtain ⟨vn', N', hn1, hn2, hp', hR1, hK1⟩ := HVD.out
        clear HVD HC
        have hoN : base.length < N'.length := by simp at hn1; omega
        obtain ⟨gn, cn, hvn, bn, hn3, hn4, hgn, -, -, n2, -, zn, -⟩ := hR1.node hoN
        have c2 := hR1.c2
        obtain ⟨x, hx⟩ : ∃ x, (N'.getD base.length nil0).2.2 = x := ⟨_, rfl⟩
        rw [hx] at n2
        obtain ⟨y, hy⟩ : ∃ y, IntKind.i64.wrap (x + 1) = y := ⟨_, rfl⟩
        obtain ⟨hR2, hK2⟩ := hR1.setk hoN hvn y
        have hl2 : (N'.set base.length ((N'.getD base.length nil0).1, (N'.getD base.length nil0).2.1, y)).length = N'.length := by simp
        generalize N'.set base.length ((N'.getD base.length nil0).1, (N'.getD base.length nil0).2.1, y) = N2 at *
        have HR2 : Hid _ := hR2
        have HK2 : Hid _ := HK.out.trans (hK1.trans hK2)
        clear hR2 hK2 hR1 hK1 hx HRd
        have hoN' : (base.length : Int) < N'.length := by omega
        obtain ⟨m, hm⟩ : ∃ m, N'.length = m := ⟨_, rfl⟩
        rw [hm] at hvn hn1 hn2 hn3 hoN hoN' hl2
        subst hvn
        unfold maxLen at hn4
        have hm2 : m ≤ 1048576 := by omega
        go_wp2_with fail
        refine (isD_bad B b p' 44 s _ N2 _ HR2).mono ?_
        rintro _ _ ⟨rfl, nd, rfl⟩
        rcases hsh with ⟨rfl, rfl⟩ | ⟨rfl, rfl⟩
        · go_wp2_with fail
          refine (wordD_bad B b p' s ⟨#[93]⟩ _ N2 _ (HR2.out.drewN nd) (by decide) (by decide)).mono ?_
          rintro _ _ ⟨rfl, rfl⟩
          go_wp2
          go_end0
          exact ⟨rfl, _, N2, by omega, by omega, hp', HR2.out.drewN nd, HK2.out.drewN nd⟩
        · go_wp2_with fail
          refine (wordD_bad B b p' s ⟨#[125]⟩ _ N2 _ (HR2.out.drewN nd) (by decide) (by decide)).mono ?_
          rintro _ _ ⟨rfl, rfl⟩
          go_wp2
          go_end0
          exact ⟨rfl, _, N2, by omega, by omega, hp', HR2.out.drewN nd, HK2.out.drewN nd⟩
      | some L =>
        have hkid' : (if (tx s)[p']? = some 44 ∧ ((j : Int) + 1) < most then (if (takeW (tx s) p' [44, 32]).2 = true then kidP (valP (tx s) f) (tx s) most shut g (takeW (tx s) p' [44, 32]).1 (j + 1) (acc ++ L) else ((takeW (tx s) p' [44, 32]).1, none))
            else if (tx s)[p']? = some shut then (p' + 1, some (j + 1, acc ++ L)) else (p', none)) = R := hkid
        have HKid : Hid _ := hkid'
        have HC : Hid _ := hide_ hcall
        clear hkid hkid' hcall
        go_wp2_with fail
        refine HC.out.mono ?_
        rintro _ w1 ⟨rfl, HVD⟩
        obtain ⟨vn', hqp, hn2, hp', hR1, hK1⟩ := HVD.out
        clear HVD HC
        rw [List.append_assoc, List.cons_append] at hR1
        have hoN : base.length < (base ++ (k, n, (j : Int)) :: (acc ++ L)).length := by simp
        obtain ⟨gn, cn, hvn, bn, hn3, hn4, hgn, -, -, n2, -, zn, -⟩ := hR1.node hoN
        have c2 := hR1.c2
        rw [open_at] at n2
        obtain ⟨hR2, hK2⟩ := hR1.setk hoN hvn ((j : Int) + 1)
        rw [open_at, set_at] at hR2
        have hR3 : RdD B _ b s p' vn' (base ++ (k, n, ((j + 1 : Nat) : Int)) :: (acc ++ L)) false := hR2
        have hlen3 : (base ++ (k, n, ((j + 1 : Nat) : Int)) :: (acc ++ L)).length = (base ++ (k, n, (j : Int)) :: (acc ++ L)).length := by simp
        have hlenm : (base ++ (k, n, (j : Int)) :: (acc ++ L)).length = base.length + 1 + acc.length + L.length := by simp; omega
        have hnode3 : ∀ nd, ((w1.setCell ⟨gn, base.length * 3 + 2, none⟩ (.int .i64 ((j : Int) + 1))).drewN nd).cell? ⟨gn, base.length * 3 + 2, none⟩ = some (.int .i64 ((j : Int) + 1)) ∧ ((w1.setCell ⟨gn, base.length * 3 + 2, none⟩ (.int .i64 ((j : Int) + 1))).drewN nd).cell? ⟨b, 2, none⟩ = some vn' := by
          intro nd
          have h3 := hR3.drewN nd
          obtain ⟨gn3, cn3, hvn3, -, -, -, -, -, -, n3, -⟩ := h3.node (o := base.length) (by simp)
          rw [open_at] at n3
          rw [hvn, hlen3] at hvn3
          have e1 : gn = gn3 ∧ cn = cn3 := by simpa using hvn3
          obtain ⟨rfl, rfl⟩ := e1
          exact ⟨n3, h3.c2⟩
        have HN3 : Hid _ := hnode3
        have HR3 : Hid _ := hR3
        have HK3 : Hid _ := HK.out.trans (hK1.trans hK2)
        simp only [List.length_append, List.length_cons] at hn2
        have hoN' : (base.length : Int) < (base ++ (k, n, (j : Int)) :: (acc ++ L)).length := by omega
        obtain ⟨m, hm⟩ : ∃ m, (base ++ (k, n, (j : Int)) :: (acc ++ L)).length = m := ⟨_, rfl⟩
        rw [hm] at hvn hn3 hoN hoN' hlen3 hlenm
        clear hR2 hK2 hR1 hK1 HRd hR3 hnode3 HK
        subst hvn
        unfold maxLen at hn4
        have hm2 : m ≤ 1048576 := by omega
        have hj2 : (j : Int) ≤ 1048576 := by omega
        go_wp2_with fail
        refine (isD_any B b p' 44 s _ _ _ HR3 hp' hs).mono ?_
        rintro _ _ ⟨rfl, nd, rfl⟩
        have HR4 : Hid _ := HR3.out.drewN nd
        have HK4 : Hid _ := HK3.out.drewN nd
        obtain ⟨n3, c23⟩ := HN3.out nd
        clear HN3 HR3 HK3
        -- the word at the end
        have HE : Hid (¬ ((tx s)[p']? = some 44 ∧ ((j : Int) + 1) < most) → takeW (tx s) p' [shut] = (if (tx s)[p']? = some shut then (p' + 1, true) else (p', false)) ∧ (if (tx s)[p']? = some shut then (p' + 1, some (j + 1, acc ++ L)) else (p', none)) = R) := by
          intro h
          have := HKid.out
          rw [if_neg h] at this
          exact ⟨takeW_one _ _ _, this⟩
        have HF : Hid (∀ w3, ¬ ((tx s)[p']? = some 44 ∧ ((j : Int) + 1) < most) → RdD B w3 b s (takeW (tx s) p' [shut]).1 (.slice (some ⟨gn, 0, none⟩) m cn) (base ++ (k, n, ((j + 1 : Nat) : Int)) :: (acc ++ L)) (!(takeW (tx s) p' [shut]).2) → KeptD B w w3 → KidD B w w3 b s p0 base k n R) := by
          intro w3 h hr hk
          obtain ⟨e1, e2⟩ := HE.out h
          rw [e1] at hr
          by_cases hc : (tx s)[p']? = some shut
          · have hlt := at_lt hc
            rw [tx_len] at hlt
            rw [if_pos hc] at hr e2
            rw [← e2]
            exact ⟨_, by omega, by simp; omega, by omega, hr, hk⟩
          · rw [if_neg hc] at hr e2
            rw [← e2]
            exact ⟨_, _, by simp, by simp; omega, by omega, hr, hk⟩
        clear HE
        by_cases h44 : (tx s)[p']? = some 44
        · have hd : decide ((tx s)[p']? = some 44) = true := by simpa using h44
          rw [hd]
          by_cases hlm : (j : Int) + 1 < most
          · have hlm2 : decide (most ≤ (j : Int) + 1) = false := by simp; omega
            have hwj : IntKind.i64.wrap ((j : Int) + 1) = (j : Int) + 1 := i64w _ (by omega)
            have h1 := HKid.out
            rw [if_pos ⟨h44, hlm⟩] at h1
            have HK1 : Hid _ := h1
            clear h1 HKid HF hd
            go_wp2_with fail
            refine (wordD_any B b p' s ⟨#[44, 32]⟩ _ _ _ HR4 hp' hs (by decide)).mono ?_
            rintro _ w5 ⟨rfl, HR5, HK5⟩
            have e : tx ⟨#[44, 32]⟩ = [44, 32] := rfl
            rw [e] at HR5
            have hle := takeW_le (tx s) [44, 32] p' (by rw [tx_len]; exact hp')
            rw [tx_len] at hle
            have HKk : Hid _ := HK4.out.trans HK5.out
            go_wp2
            go_roundw
            case rel =>
              refine ⟨(takeW (tx s) p' [44, 32]).1, !(takeW (tx s) p' [44, 32]).2, HR5.out.c1, hle.2, HR5.out.c3, HKk.out, hle.2, by omega, ?_⟩
              cases ht : (takeW (tx s) p' [44, 32]).2 with
              | true =>
                have hr5 := HR5.out
                have h1 := HK1.out
                rw [ht] at hr5 h1
                rw [if_pos rfl] at h1
                exact .inl ⟨rfl, g, j + 1, acc ++ L, _, by omega, by omega, by omega, by simp; omega, h1, hr5⟩
              | false =>
                have hr5 := HR5.out
                have h1 := HK1.out
                rw [ht] at hr5 h1
                rw [if_neg (by simp)] at h1
                exact .inr ⟨rfl, _, _, by simp, by simp; omega, h1.symm, hr5⟩
            case measure =>
              have c15 := HR5.out.c1
              rw [c15, c1]
              simp
              omega
          · have hlm2 : decide (most ≤ (j : Int) + 1) = true := by simp; omega
            have hwj : IntKind.i64.wrap ((j : Int) + 1) = (j : Int) + 1 := i64w _ (by omega)
            have HX : Hid (¬ ((tx s)[p']? = some 44 ∧ ((j : Int) + 1) < most)) := fun h => hlm h.2
            clear hd HKid
            rcases hsh with ⟨rfl, rfl⟩ | ⟨rfl, rfl⟩
            · go_wp2_with fail
              refine (wordD_any B b p' s ⟨#[93]⟩ _ _ _ HR4 hp' hs (by decide)).mono ?_
              rintro _ w5 ⟨rfl, HR5, HK5⟩
              go_wp2
              go_end0
              exact ⟨rfl, HF.out w5 HX.out HR5.out (HK4.out.trans HK5.out)⟩
            · go_wp2_with fail
              refine (wordD_any B b p' s ⟨#[125]⟩ _ _ _ HR4 hp' hs (by decide)).mono ?_
              rintro _ w5 ⟨rfl, HR5, HK5⟩
              go_wp2
              go_end0
              exact ⟨rfl, HF.out w5 HX.out HR5.out (HK4.out.trans HK5.out)⟩
        · have hd : decide ((tx s)[p']? = some 44) = false := by simpa using h44
          rw [hd]
          have HX : Hid (¬ ((tx s)[p']? = some 44 ∧ ((j : Int) + 1) < most)) := fun h => h44 h.1
          clear hd HKid
          rcases hsh with ⟨rfl, rfl⟩ | ⟨rfl, rfl⟩
          · go_wp2_with fail
            refine (wordD_any B b p' s ⟨#[93]⟩ _ _ _ HR4 hp' hs (by decide)).mono ?_
            rintro _ w5 ⟨rfl, HR5, HK5⟩
            go_wp2
            go_end0
            exact ⟨rfl, HF.out w5 HX.out HR5.out (HK4.out.trans HK5.out)⟩
          · go_wp2_with fail
            refine (wordD_any B b p' s ⟨#[125]⟩ _ _ _ HR4 hp' hs (by decide)).mono ?_
            rintro _ w5 ⟨rfl, HR5, HK5⟩
            go_wp2
            go_end0
            exact ⟨rfl, HF.out w5 HX.out HR5.out (HK4.out.trans HK5.out)⟩
    · have HRd : Hid _ := hRd
      have HK : Hid _ := hK
      subst hRe
      clear HKL hRd hK
      rcases hsh with ⟨rfl, rfl⟩ | ⟨rfl, rfl⟩
      · go_wp2_with fail
        refine (wordD_bad B b q s ⟨#[93]⟩ vn N' _ HRd (by decide) (by decide)).mono ?_
        rintro _ _ ⟨rfl, rfl⟩
        go_wp2
        go_end0
        exact ⟨rfl, vn, N', hN1, hN2, hq, HRd.out, HK.out⟩
      · go_wp2_with fail
        refine (wordD_bad B b q s ⟨#[125]⟩ vn N' _ HRd (by decide) (by decide)).mono ?_
        rintro _ _ ⟨rfl, rfl⟩
        go_wp2
        go_end0
        exact ⟨rfl, vn, N', hN1, hN2, hq, HRd.out, HK.out⟩
end Go.Proofs.YtlbgdgobhiokpaaDoor

/- The document's value. -/
namespace Go.Proofs.YtlbgdgobhiokpaaDoor
open Go.RowKit
set_option linter.unusedVariables false

theorem takeW_head (t : List Int) (c : Int) (r : List Int) (p : Nat) (h : t[p]? = some c) : takeW t p (c :: r) = takeW t (p + 1) r := by rw [takeW, if_pos h]
theorem leaf_val {B b p : Nat} {s : ByteArray} {N : List Nd} {nd : Nd} {c : Int} {r : List Int} {w w2 : World} {vn' : Value} {V : Nat × Option (List Nd)} (htx : (tx s)[p]? = some c) (hN : N.length ≤ p) (hr : RdD B w2 b s (takeW (tx s) p (c :: r)).1 vn' (N ++ [nd]) (!(takeW (tx s) p (c :: r)).2)) (hk : KeptD B w w2)
    (hV : (if (takeW (tx s) p (c :: r)).2 = true then ((takeW (tx s) p (c :: r)).1, some [nd]) else ((takeW (tx s) p (c :: r)).1, none)) = V) : ValD B w w2 b s p N V := by
  have hlt := at_lt htx
  have hle := takeW_le (tx s) r (p + 1) hlt
  rw [tx_len] at hle
  rw [takeW_head _ _ _ _ htx] at hr hV
  subst hV
  cases ht : (takeW (tx s) (p + 1) r).2 with
  | true =>
    rw [ht] at hr
    rw [if_pos rfl]
    exact ⟨_, by omega, by simp; omega, hle.2, hr, hk⟩
  | false =>
    rw [ht] at hr
    rw [if_neg (by simp)]
    exact ⟨_, _, by simp, by simp; omega, hle.2, hr, hk⟩
theorem num_drop {t : List Int} {p : Nat} {c : Int} {most : Int} (h : t[p]? = some c) (h1 : 48 ≤ c) (h2 : c ≤ 57) (hm : 255 ≤ most) : 0 < (numL most (t.drop p) true 0).2 := by
  have hlt := at_lt h
  have e : t.drop p = c :: t.drop (p + 1) := by
    rw [List.drop_eq_getElem_cons hlt]
    rw [List.getElem?_eq_getElem hlt] at h
    rw [Option.some.inj h]
  rw [e, numL, if_pos ⟨h1, h2⟩, if_neg (fun h => by rcases h with ⟨h, -⟩ | h <;> first | cases h | omega)]
  simp
theorem num_end (t : List Int) (p : Nat) (most : Int) (hp : p ≤ t.length) : p + (numL most (t.drop p) true 0).2 ≤ t.length := by
  have := numL_le most (t.drop p) true 0
  rw [List.length_drop] at this
  omega
set_option maxRecDepth 100000 in
set_option maxHeartbeats 16000000 in
theorem valueD_any (B b : Nat) (s : ByteArray) (hs : s.size ≤ 1048576) : ∀ f, RdV B b s f := by
  intro f
  induction f with
  | zero => intro p vn N w hR hp hN hf; omega
  | succ f ih =>
    have IH : Hid (RdV B b s f) := ih
    clear ih
    intro p vn N w hR hp hN hf
    obtain ⟨V, HVe⟩ : ∃ V, Hid (valP (tx s) (f + 1) p = V) := ⟨_, rfl⟩
    rw [HVe.out]
    have hN2 : N.length ≤ 2000000 := by omega
    have c0 := hR.out.c0; have c1 := hR.out.c1; have c2 := hR.out.c2; have c3 := hR.out.c3
    have z3 := hR.out.blk.frozen 3
    go_enter Tryd.func76, Tryd.ntmps76
    by_cases hend : p = s.size
    · subst hend
      have hV : (s.size, none) = V := by
        have := HVe.out
        rw [valP, List.getElem?_eq_none (by rw [tx_len]; omega)] at this
        exact this
      subst hV
      clear HVe
      go_wp2_with fail
      go_quiet (fail)
      go_wp2
      exact bodyPost_ret (results_none rfl _ _ _) rfl ⟨rfl, vn, N, Nat.le_refl _, hN, Nat.le_refl _, (hR.out.drewN _).setb true, ((KeptD.refl _ _).drewN _).trans ((hR.out.drewN _).keptb 3 _)⟩
    · have hqs : p < s.size := by omega
      have hqs' : (p : Int) < s.size := by omega
      obtain ⟨x, hx⟩ : ∃ x : Int, (((s[p]'hqs).toNat : Nat) : Int) = x := ⟨_, rfl⟩
      have htx : (tx s)[p]? = some x := by rw [tx_at s p hqs, hx]
      have hbq : decide ((s.size : Int) ≤ (p : Int)) = false := by simp; omega
      have hV := HVe.out
      rw [valP, htx] at hV
      simp only at hV
      have HTx : Hid _ := htx
      have HV : Hid _ := hV
      clear hV HVe htx
      have hvl : ∃ a c, vn = .slice a N.length c := by
        rcases Nat.eq_zero_or_pos N.length with h0 | h0
        · rcases hR.out.nod.2 with ⟨e, _⟩ | ⟨g, cap, cur, e, _⟩
          · exact ⟨_, _, by rw [h0]; exact e⟩
          · exact ⟨_, _, e⟩
        · obtain ⟨g, cap, ys, e, _⟩ := ownS_blk hR.out.nod h0
          exact ⟨_, _, e⟩
      obtain ⟨a, cc, rfl⟩ := hvl
      go_wp2_with fail
      go_quiet (fail)
      have HRa : Hid _ := hR.out.drewN nq
      have HKa : Hid _ := (KeptD.refl B w).drewN nq
      generalize w.drewN nq = wa at *
      clear c0 c1 c2 c3 z3 hR
      have c0 := HRa.out.c0; have c1 := HRa.out.c1; have c2 := HRa.out.c2; have c3 := HRa.out.c3
      go_wp2_with fail
      clear nq
      go_quiet (fail)
      have HRb : Hid _ := HRa.out.drewN nq
      have HKb : Hid _ := HKa.out.drewN nq
      generalize wa.drewN nq = wb at *
      clear c0 c1 c2 c3 HRa HKa
      have c2 := HRb.out.c2; have c3 := HRb.out.c3
      have z3 := HRb.out.blk.frozen 3
      have z2 := HRb.out.blk.frozen 2
      by_cases h116 : x = 116
      · subst h116
        obtain ⟨g', cap', w1, r1, k2, zz, hR1, hK1⟩ := HRb.out.push 2 1 0 hN2
        have R1 : Hid _ := r1
        have HR1 : Hid _ := hR1
        have HK1 : Hid _ := HKb.out.trans hK1
        clear r1 hR1 hK1 HRb HKb IH
        have h1 := HV.out
        rw [if_neg (by decide), if_neg (by decide), if_neg (by decide), if_neg (by decide)] at h1
        have hL : leafW (tx s) 116 p = ((takeW (tx s) p [116, 114, 117, 101]).1, 1, (takeW (tx s) p [116, 114, 117, 101]).2) := by
          unfold leafW
          rw [if_neg (by decide), if_neg (by decide), if_pos rfl]
        have hLK : leafK 116 = 2 := by decide
        rw [hL, hLK] at h1
        have HV1 : Hid _ := h1
        clear HV h1 hL hLK
        go_wp2_with (at_builtin; have _t := R1; refine wpList_append_run rfl (.tmp 66) (.tmp 68) 22 22 rfl rfl rfl R1.out ?_; clear R1)
        refine (wordD_any B b p s ⟨#[116, 114, 117, 101]⟩ _ _ _ HR1 hp hs (by decide)).mono ?_
        rintro _ w5 ⟨rfl, HR5, HK5⟩
        go_wp2
        go_end0
        exact ⟨rfl, leaf_val HTx.out hN HR5.out (HK1.out.trans HK5.out) HV1.out⟩
      by_cases h102 : x = 102
      · subst h102
        obtain ⟨g', cap', w1, r1, k2, zz, hR1, hK1⟩ := HRb.out.push 2 0 0 hN2
        have R1 : Hid _ := r1
        have HR1 : Hid _ := hR1
        have HK1 : Hid _ := HKb.out.trans hK1
        clear r1 hR1 hK1 HRb HKb IH
        have h1 := HV.out
        rw [if_neg (by decide), if_neg (by decide), if_neg (by decide), if_neg (by decide)] at h1
        have hL : leafW (tx s) 102 p = ((takeW (tx s) p [102, 97, 108, 115, 101]).1, 0, (takeW (tx s) p [102, 97, 108, 115, 101]).2) := by
          unfold leafW
          rw [if_neg (by decide), if_pos rfl]
        have hLK : leafK 102 = 2 := by decide
        rw [hL, hLK] at h1
        have HV1 : Hid _ := h1
        clear HV h1 hL hLK
        go_wp2_with (at_builtin; have _t := R1; refine wpList_append_run rfl (.tmp 81) (.tmp 83) 22 22 rfl rfl rfl R1.out ?_; clear R1)
        refine (wordD_any B b p s ⟨#[102, 97, 108, 115, 101]⟩ _ _ _ HR1 hp hs (by decide)).mono ?_
        rintro _ w5 ⟨rfl, HR5, HK5⟩
        go_wp2
        go_end0
        exact ⟨rfl, leaf_val HTx.out hN HR5.out (HK1.out.trans HK5.out) HV1.out⟩
      by_cases h110 : x = 110
      · subst h110
        obtain ⟨g', cap', w1, r1, k2, zz, hR1, hK1⟩ := HRb.out.push 5 0 0 hN2
        have R1 : Hid _ := r1
        have HR1 : Hid _ := hR1
        have HK1 : Hid _ := HKb.out.trans hK1
        clear r1 hR1 hK1 HRb HKb IH
        have h1 := HV.out
        rw [if_neg (by decide), if_neg (by decide), if_neg (by decide), if_neg (by decide)] at h1
        have hL : leafW (tx s) 110 p = ((takeW (tx s) p [110, 111, 110, 101]).1, 0, (takeW (tx s) p [110, 111, 110, 101]).2) := by
          unfold leafW
          rw [if_pos rfl]
        have hLK : leafK 110 = 5 := by decide
        rw [hL, hLK] at h1
        have HV1 : Hid _ := h1
        clear HV h1 hL hLK
        go_wp2_with (at_builtin; have _t := R1; refine wpList_append_run rfl (.tmp 96) (.tmp 98) 22 22 rfl rfl rfl R1.out ?_; clear R1)
        refine (wordD_any B b p s ⟨#[110, 111, 110, 101]⟩ _ _ _ HR1 hp hs (by decide)).mono ?_
        rintro _ w5 ⟨rfl, HR5, HK5⟩
        go_wp2
        go_end0
        exact ⟨rfl, leaf_val HTx.out hN HR5.out (HK1.out.trans HK5.out) HV1.out⟩
      by_cases h115 : x = 115
      · subst h115
        obtain ⟨g', cap', w1, r1, k2, zz, hR1, hK1⟩ := HRb.out.push 5 0 1 hN2
        have R1 : Hid _ := r1
        have HR1 : Hid _ := hR1
        have HK1 : Hid _ := HKb.out.trans hK1
        clear r1 hR1 hK1 HRb HKb
        have h1 := HV.out
        rw [if_neg (by decide), if_neg (by decide), if_neg (by decide), if_pos rfl] at h1
        have HV1 : Hid _ := h1
        have hle := takeW_le (tx s) [111, 109, 101, 32] (p + 1) (by rw [tx_len]; exact hqs)
        rw [← takeW_head _ _ _ _ HTx.out, tx_len] at hle
        clear HV h1
        go_wp2_with (at_builtin; have _t := R1; refine wpList_append_run rfl (.tmp 111) (.tmp 113) 22 22 rfl rfl rfl R1.out ?_; clear R1)
        refine (wordD_any B b p s ⟨#[115, 111, 109, 101, 32]⟩ _ _ _ HR1 hp hs (by decide)).mono ?_
        rintro _ w5 ⟨rfl, HR5, HK5⟩
        have e : tx ⟨#[115, 111, 109, 101, 32]⟩ = [115, 111, 109, 101, 32] := rfl
        rw [e] at HR5
        have HKk : Hid _ := HK1.out.trans HK5.out
        obtain ⟨q, tb, ht⟩ : ∃ q tb, takeW (tx s) p [115, 111, 109, 101, 32] = (q, tb) := ⟨_, _, rfl⟩
        rw [ht] at HR5 HV1 hle
        simp only at hle
        clear ht HR1 HK1 HK5 e
        cases tb with
        | true =>
          have HC := hide_ (IH.out q _ _ w5 HR5 hle.2 (by simp; omega) (by omega))
          have h1 := HV1.out
          rw [if_pos rfl] at h1
          simp only at h1
          obtain ⟨Vq, HVq⟩ : ∃ Vq, Hid (valP (tx s) f q = Vq) := ⟨_, rfl⟩
          rw [HVq.out] at HC h1
          have HV2 : Hid _ := h1
          clear h1 HV1
          go_wp2_with fail
          refine HC.out.mono ?_
          rintro _ w6 ⟨rfl, HD⟩
          go_wp2
          go_end0
          refine ⟨rfl, ?_⟩
          have h1 := HV2.out
          have hD := HD.out
          obtain ⟨q2, o2⟩ := Vq
          cases o2 with
          | none =>
            obtain ⟨vn2, N2, d1, d2, d3, d4, d5⟩ := hD
            simp only at h1
            subst h1
            exact ⟨vn2, N2, by simp at d1; omega, d2, d3, d4, HKk.out.trans d5⟩
          | some L =>
            obtain ⟨vn2, d1, d2, d3, d4, d5⟩ := hD
            simp only at h1
            subst h1
            rw [List.append_assoc] at d4
            exact ⟨vn2, by omega, by simp at d2 ⊢; omega, d3, d4, HKk.out.trans d5⟩
        | false =>
          have h1 := HV1.out
          rw [if_neg (by simp)] at h1
          simp only at h1
          subst h1
          go_wp2_with fail
          refine (valueD_bad B b q s _ _ w5 HR5).mono ?_
          rintro _ w6 ⟨rfl, HR6, HK6⟩
          go_wp2
          go_end0
          exact ⟨rfl, _, _, by simp, by simp; omega, hle.2, HR6.out, HKk.out.trans HK6.out⟩
      by_cases h91 : x = 91
      · subst h91
        obtain ⟨g', cap', w1, r1, k2, zz, hR1, hK1⟩ := HRb.out.push 3 0 0 hN2
        have R1 : Hid _ := r1
        have HR1 : Hid _ := hR1
        have HK1 : Hid _ := HKb.out.trans hK1
        clear r1 hR1 hK1 HRb HKb
        have h1 := HV.out
        rw [if_pos rfl] at h1
        have HV1 : Hid _ := h1
        clear HV h1
        go_wp2_with (at_builtin; have _t := R1; refine wpList_append_run rfl (.tmp 128) (.tmp 130) 22 22 rfl rfl rfl R1.out ?_; clear R1)
        refine (wordD_any B b p s ⟨#[91]⟩ _ _ _ HR1 hp hs (by decide)).mono ?_
        rintro _ w5 ⟨rfl, HR5, HK5⟩
        have e : takeW (tx s) p (tx ⟨#[91]⟩) = (p + 1, true) := takeW_head _ _ _ _ HTx.out
        rw [e] at HR5
        have HR5' : Hid (RdD B w5 b s (p + 1) _ (N ++ [(3, 0, 0)]) false) := HR5
        have HKk : Hid _ := HK1.out.trans HK5.out
        clear HR1 HK1 HK5 e HR5
        go_wp2_with fail
        refine (isD_any B b (p + 1) 93 s _ _ _ HR5' (by omega) hs).mono ?_
        rintro _ _ ⟨rfl, nd, rfl⟩
        have HR6 : Hid _ := HR5'.out.drewN nd
        have HK6 : Hid _ := HKk.out.drewN nd
        generalize w5.drewN nd = w6 at *
        clear HR5' HKk
        by_cases h93 : (tx s)[p + 1]? = some 93
        · have hd : decide ((tx s)[p + 1]? = some 93) = true := by simpa using h93
          rw [hd]
          have h1 := HV1.out
          rw [if_pos h93] at h1
          subst h1
          clear hd HV1
          have hl2 := at_lt h93
          rw [tx_len] at hl2
          go_wp2_with fail
          refine (wordD_any B b (p + 1) s ⟨#[93]⟩ _ _ _ HR6 (by omega) hs (by decide)).mono ?_
          rintro _ w7 ⟨rfl, HR7, HK7⟩
          have e : takeW (tx s) (p + 1) (tx ⟨#[93]⟩) = (p + 2, true) := takeW_head _ _ _ _ h93
          rw [e] at HR7
          go_wp2
          exact bodyPost_ret (results_none rfl _ _ _) rfl ⟨rfl, _, by omega, by simp; omega, by omega, HR7.out, HK6.out.trans HK7.out⟩
        · have hd : decide ((tx s)[p + 1]? = some 93) = false := by simpa using h93
          rw [hd]
          clear hd
          have h1 := HV1.out
          rw [if_neg h93] at h1
          have HV1 : Hid _ := h1
          clear h1
          have HC := hide_ (kidsD_any B b f 3 0 1048576 93 s ⟨#[93]⟩ N (p + 1) _ w6 (.inl ⟨rfl, rfl⟩) (by omega) (by omega) hs HR6 (by omega) (by omega) (by omega) IH)
          obtain ⟨Vq, HVq⟩ : ∃ Vq, Hid (kidP (valP (tx s) f) (tx s) 1048576 93 f (p + 1) 0 [] = Vq) := ⟨_, rfl⟩
          have h1 := HV1.out
          rw [HVq.out] at HC h1
          have HV2 : Hid _ := h1
          clear h1 HV1
          go_wp2_with fail
          refine HC.out.mono ?_
          rintro _ w6 ⟨rfl, HD⟩
          go_wp2
          go_end0
          refine ⟨rfl, ?_⟩
          have h1 := HV2.out
          have hD := HD.out
          obtain ⟨q2, o2⟩ := Vq
          cases o2 with
          | none =>
            obtain ⟨vn2, N2, d1, d2, d3, d4, d5⟩ := hD
            simp only at h1
            subst h1
            exact ⟨vn2, N2, by omega, d2, d3, d4, HK6.out.trans d5⟩
          | some jl =>
            obtain ⟨j, L⟩ := jl
            obtain ⟨vn2, d1, d2, d3, d4, d5⟩ := hD
            simp only at h1
            subst h1
            exact ⟨vn2, by omega, by simp; omega, d3, d4, HK6.out.trans d5⟩
      by_cases h123 : x = 123
      · subst h123
        obtain ⟨g', cap', w1, r1, k2, zz, hR1, hK1⟩ := HRb.out.push 4 0 0 hN2
        have R1 : Hid _ := r1
        have HR1 : Hid _ := hR1
        have HK1 : Hid _ := HKb.out.trans hK1
        clear r1 hR1 hK1 HRb HKb
        have h1 := HV.out
        rw [if_neg (by decide), if_pos rfl] at h1
        have HV1 : Hid _ := h1
        clear HV h1
        go_wp2_with (at_builtin; have _t := R1; refine wpList_append_run rfl (.tmp 150) (.tmp 152) 22 22 rfl rfl rfl R1.out ?_; clear R1)
        refine (wordD_any B b p s ⟨#[123]⟩ _ _ _ HR1 hp hs (by decide)).mono ?_
        rintro _ w5 ⟨rfl, HR5, HK5⟩
        have e : takeW (tx s) p (tx ⟨#[123]⟩) = (p + 1, true) := takeW_head _ _ _ _ HTx.out
        rw [e] at HR5
        have HR5' : Hid (RdD B w5 b s (p + 1) _ (N ++ [(4, 0, 0)]) false) := HR5
        have HKk : Hid _ := HK1.out.trans HK5.out
        clear HR1 HK1 HK5 e HR5
        have HC := hide_ (kidsD_any B b f 4 0 64 125 s ⟨#[125]⟩ N (p + 1) _ w5 (.inr ⟨rfl, rfl⟩) (by omega) (by omega) hs HR5' (by omega) (by omega) (by omega) IH)
        obtain ⟨Vq, HVq⟩ : ∃ Vq, Hid (kidP (valP (tx s) f) (tx s) 64 125 f (p + 1) 0 [] = Vq) := ⟨_, rfl⟩
        have h1 := HV1.out
        rw [HVq.out] at HC h1
        have HV2 : Hid _ := h1
        clear h1 HV1
        go_wp2_with fail
        refine HC.out.mono ?_
        rintro _ w6 ⟨rfl, HD⟩
        go_wp2
        go_end0
        refine ⟨rfl, ?_⟩
        have h1 := HV2.out
        have hD := HD.out
        obtain ⟨q2, o2⟩ := Vq
        cases o2 with
        | none =>
          obtain ⟨vn2, N2, d1, d2, d3, d4, d5⟩ := hD
          simp only at h1
          subst h1
          exact ⟨vn2, N2, by omega, d2, d3, d4, HKk.out.trans d5⟩
        | some jl =>
          obtain ⟨j, L⟩ := jl
          obtain ⟨vn2, d1, d2, d3, d4, d5⟩ := hD
          simp only at h1
          subst h1
          exact ⟨vn2, by omega, by simp; omega, d3, d4, HKk.out.trans d5⟩
      by_cases h60 : x = 60
      · subst h60
        obtain ⟨g', cap', w1, r1, k2, zz, hR1, hK1⟩ := HRb.out.push 6 0 1 hN2
        have R1 : Hid _ := r1
        have HR1 : Hid _ := hR1
        have HK1 : Hid _ := HKb.out.trans hK1
        clear r1 hR1 hK1 HRb HKb
        have h1 := HV.out
        rw [if_neg (by decide), if_neg (by decide), if_pos rfl] at h1
        have HV1 : Hid _ := h1
        clear HV h1
        go_wp2_with (at_builtin; have _t := R1; refine wpList_append_run rfl (.tmp 168) (.tmp 170) 22 22 rfl rfl rfl R1.out ?_; clear R1)
        refine (wordD_any B b p s ⟨#[60]⟩ _ _ _ HR1 hp hs (by decide)).mono ?_
        rintro _ w5 ⟨rfl, HR5, HK5⟩
        have e : takeW (tx s) p (tx ⟨#[60]⟩) = (p + 1, true) := takeW_head _ _ _ _ HTx.out
        rw [e] at HR5
        have HR5' : Hid (RdD B w5.drew b s (p + 1) _ (N ++ [(6, 0, 1)]) false) := HR5.out.drew
        have HKk : Hid _ := (HK1.out.trans HK5.out).drew
        have G5 : w5.cell? ⟨b, 2, none⟩ = some (.slice (some ⟨g', 0, none⟩) (N.length + 1) cap') := HR5.out.c2
        clear HR1 HK1 HK5 e HR5 k2 zz c2 c3 z2 z3
        have hpe := num_end (tx s) (p + 1) 255 (by rw [tx_len]; omega)
        rw [tx_len] at hpe
        have hcap : cap' ≤ maxLen := by
          obtain ⟨gn, cn, hvn, -, hn3, hn4, -⟩ := HR5'.out.node (o := N.length) (by simp)
          have e1 : g' = gn ∧ cap' = cn := by simpa using hvn
          rw [e1.2]
          exact hn4
        have hcap1 : N.length + 1 ≤ cap' := by
          obtain ⟨gn, cn, hvn, -, hn3, hn4, -⟩ := HR5'.out.node (o := N.length) (by simp)
          have e1 : g' = gn ∧ cap' = cn := by simpa using hvn
          rw [e1.2]
          simpa using hn3
        unfold maxLen at hcap
        have hNN : (N.length : Int) < (N.length : Int) + 1 := by omega
        obtain ⟨nn, nd, hnum⟩ : ∃ nn nd, numL 255 ((tx s).drop (p + 1)) true 0 = (nn, nd) := ⟨_, _, rfl⟩
        have HC := hide_ (numD_any B b (p + 1) 255 s _ _ _ HR5' (by omega) hs (by omega) (by omega))
        rw [hnum] at HC HV1 hpe
        simp only at hpe
        clear hnum HR5'
        go_wp2_with fail
        go_region_held_law (fun w' => w'.cell? ⟨b, 2, none⟩ = some (.slice (some ⟨g', 0, none⟩) (N.length + 1) cap')) (first | assumption | exact G5)
          ((go_at_call 83; refine HC.out.mono ?_; rintro e w6 ⟨rfl, HR6, HK6⟩;
            have G6 : w6.cell? ⟨b, 2, none⟩ = some (.slice (some ⟨g', 0, none⟩) (N.length + 1) cap') := HR6.out.c2;
            obtain ⟨gn, cn, hvn, bn, hn3, hn4, hgn, -, n1, -, zn, -, -⟩ := HR6.out.node (o := N.length) (by simp);
            obtain ⟨rfl, rfl⟩ : g' = gn ∧ cap' = cn := by simpa using hvn
            have HS6 := hide_ (HR6.out.setn (o := N.length) (by simp) hvn nn);
            rw [open_at] at n1;
            have G7 : (w6.setCell ⟨g', N.length * 3 + 1, none⟩ (.int .u64 nn)).cell? ⟨b, 2, none⟩ = some (.slice (some ⟨g', 0, none⟩) (N.length + 1) cap') := HS6.out.1.c2;
            clear hn3 hn4 hvn))
        have hset : (N ++ [(6, 0, 1)]).set N.length ((( N ++ [(6, 0, 1)]).getD N.length nil0).1, nn, ((N ++ [(6, 0, 1)]).getD N.length nil0).2.2) = N ++ [(6, nn, 1)] := by
          rw [open_at N (6, 0, 1) [], set_at]
        have hS := HS6.out
        rw [hset] at hS
        have HR7 := hide_ hS.1
        have HK7 := hide_ (HKk.out.trans (HK6.out.trans hS.2))
        clear hS HS6 hset HR6 HK6 HC HKk G6 G5
        generalize w6.setCell ⟨g', N.length * 3 + 1, none⟩ (.int .u64 nn) = w7 at *
        clear n1 zn
        by_cases hnd : 0 < nd
        · have hnd0 : decide (nd = 0) = false := by simp; omega
          rw [hnd0] at HR7
          have hle := takeW_le (tx s) [58] (p + 1 + nd) (by rw [tx_len]; exact hpe)
          rw [tx_len] at hle
          have h1 := HV1.out
          rw [if_pos hnd] at h1
          have HV2 := hide_ h1
          clear h1 HV1 hnd0
          go_wp2_with fail
          refine (wordD_any B b (p + 1 + nd) s ⟨#[58]⟩ _ _ _ HR7 hpe hs (by decide)).mono ?_
          rintro _ w8 ⟨rfl, HR8, HK8⟩
          have e : tx ⟨#[58]⟩ = [58] := rfl
          rw [e] at HR8
          have HKk := hide_ (HK7.out.trans HK8.out)
          obtain ⟨q, tb, ht⟩ : ∃ q tb, takeW (tx s) (p + 1 + nd) [58] = (q, tb) := ⟨_, _, rfl⟩
          rw [ht] at HR8 HV2 hle
          simp only at hle
          clear ht HR7 HK7 HK8 e G7
          cases tb with
          | true =>
            have HC := hide_ (IH.out q _ _ w8 HR8 hle.2 (by simp; omega) (by omega))
            have h1 := HV2.out
            rw [if_pos rfl] at h1
            simp only at h1
            obtain ⟨Vq, HVq⟩ : ∃ Vq, Hid (valP (tx s) f q = Vq) := ⟨_, rfl⟩
            rw [HVq.out] at HC h1
            have HV3 := hide_ h1
            clear h1 HV2
            go_wp2_with fail
            refine HC.out.mono ?_
            rintro _ w9 ⟨rfl, HD⟩
            have h1 := HV3.out
            have hD := HD.out
            obtain ⟨q2, o2⟩ := Vq
            cases o2 with
            | none =>
              obtain ⟨vn2, N2, d1, d2, d3, d4, d5⟩ := hD
              simp only at h1
              subst h1
              have HR9 := hide_ d4
              have HK9 := hide_ (HKk.out.trans d5)
              clear d4 d5 HD HC HV3
              go_wp2_with fail
              refine (wordD_bad B b q2 s ⟨#[62]⟩ _ _ _ HR9 (by decide) (by decide)).mono ?_
              rintro _ _ ⟨rfl, rfl⟩
              go_wp2
              go_end0
              exact ⟨rfl, vn2, N2, by simp at d1; omega, d2, d3, HR9.out, HK9.out⟩
            | some L =>
              obtain ⟨vn2, d1, d2, d3, d4, d5⟩ := hD
              simp only at h1
              rw [List.append_assoc] at d4
              have HR9 := hide_ d4
              have HK9 := hide_ (HKk.out.trans d5)
              have HV4 := hide_ h1
              clear d4 d5 HD HC HV3 h1
              go_wp2_with fail
              refine (wordD_any B b q2 s ⟨#[62]⟩ _ _ _ HR9 d3 hs (by decide)).mono ?_
              rintro _ w10 ⟨rfl, HR10, HK10⟩
              go_wp2
              go_end0
              refine ⟨rfl, ?_⟩
              have h1 := HV4.out
              have h2 := HR10.out
              have e2 : takeW (tx s) q2 (tx ⟨#[62]⟩) = if (tx s)[q2]? = some 62 then (q2 + 1, true) else (q2, false) := takeW_one _ _ _
              rw [e2] at h2
              simp at d2
              by_cases h62 : (tx s)[q2]? = some 62
              · have hl2 := at_lt h62
                rw [tx_len] at hl2
                rw [if_pos h62] at h1 h2
                subst h1
                exact ⟨_, by omega, by simp; omega, by omega, h2, HK9.out.trans HK10.out⟩
              · rw [if_neg h62] at h1 h2
                subst h1
                exact ⟨_, _, by simp, by simp; omega, by omega, h2, HK9.out.trans HK10.out⟩
          | false =>
            have h1 := HV2.out
            rw [if_neg (by simp)] at h1
            simp only at h1
            subst h1
            go_wp2_with fail
            refine (valueD_bad B b q s _ _ w8 HR8).mono ?_
            rintro _ w9 ⟨rfl, HR9, HK9⟩
            go_wp2_with fail
            refine (wordD_bad B b q s ⟨#[62]⟩ _ _ _ HR9 (by decide) (by decide)).mono ?_
            rintro _ _ ⟨rfl, rfl⟩
            go_wp2
            go_end0
            exact ⟨rfl, _, _, by simp, by simp; omega, hle.2, HR9.out, HKk.out.trans HK9.out⟩
        · obtain rfl : nd = 0 := by omega
          have h1 := HV1.out
          rw [if_neg hnd] at h1
          subst h1
          have HR7' : Hid (RdD B w7 b s (p + 1) _ (N ++ [(6, nn, 1)]) true) := HR7
          clear HR7 HV1
          go_wp2_with fail
          refine (wordD_bad B b (p + 1) s ⟨#[58]⟩ _ _ _ HR7' (by decide) (by decide)).mono ?_
          rintro _ _ ⟨rfl, rfl⟩
          go_wp2_with fail
          refine (valueD_bad B b (p + 1) s _ _ w7 HR7').mono ?_
          rintro _ w9 ⟨rfl, HR9, HK9⟩
          go_wp2_with fail
          refine (wordD_bad B b (p + 1) s ⟨#[62]⟩ _ _ _ HR9 (by decide) (by decide)).mono ?_
          rintro _ _ ⟨rfl, rfl⟩
          go_wp2
          go_end0
          exact ⟨rfl, _, _, by simp, by simp; omega, by omega, HR9.out, HK7.out.trans HK9.out⟩
      by_cases hdig : 48 ≤ x ∧ x ≤ 57
      · obtain ⟨h48, h57⟩ := hdig
        have hpos := num_drop (most := 18446744073709551615) HTx.out h48 h57 (by omega)
        have hpe := num_end (tx s) p 18446744073709551615 (by rw [tx_len]; omega)
        rw [tx_len] at hpe
        have h1 := HV.out
        rw [if_neg h91, if_neg h123, if_neg h60, if_neg h115] at h1
        have hL : leafW (tx s) x p = (p + (numL 18446744073709551615 ((tx s).drop p) true 0).2, (numL 18446744073709551615 ((tx s).drop p) true 0).1, decide (0 < (numL 18446744073709551615 ((tx s).drop p) true 0).2)) := by
          unfold leafW
          rw [if_neg h110, if_neg h102, if_neg h116]
        have hLK : leafK x = 1 := by
          unfold leafK
          rw [if_neg h110, if_neg h102, if_neg h116]
        rw [hL, hLK] at h1
        have HCb := numD_any B b p 18446744073709551615 s _ N _ (HRb.out.drew) hp hs (by omega) (by omega)
        obtain ⟨nn, nd, hnum⟩ : ∃ nn nd, numL 18446744073709551615 ((tx s).drop p) true 0 = (nn, nd) := ⟨_, _, rfl⟩
        rw [hnum] at h1 hpos hpe HCb
        have hnd0 : decide (nd = 0) = false := by simp at hpos ⊢; omega
        simp only at h1 hpos hpe HCb
        rw [hnd0] at HCb
        rw [if_pos (by simpa using hpos)] at h1
        subst h1
        have HC := hide_ HCb
        have G5 : wb.cell? ⟨b, 2, none⟩ = some (.slice a N.length cc) := c2
        clear HCb HV hL hLK hnum hnd0 HTx IH z3 c3
        go_wp2_with fail
        go_region_law (first
            | (go_simp; go_at_call 83; refine HC.out.mono ?_; rintro e w6 ⟨rfl, HR6, HK6⟩;
               have G6 : w6.cell? ⟨b, 2, none⟩ = some (.slice a N.length cc) := HR6.out.c2;
               have G7 : (w6.alloc (.cells #[.int .i64 1, .int .u64 nn, .int .i64 0] 37)).cell? ⟨b, 2, none⟩ = some (.slice a N.length cc) := (HR6.out.later ((Below.refl _ _).alloc (Nat.le_refl _) _)).c2;
               obtain ⟨g', cap', w1, r1, k2, zz, hR1, hK1⟩ := HR6.out.push 1 nn 0 hN2;
               have R1 := hide_ r1; have HR1 := hide_ hR1; have HK1 := hide_ (HKb.out.drew.trans (HK6.out.trans hK1)); clear r1 hR1 hK1; go_simp)
            | (have _t := R1; refine step_append_run (v := .slice a N.length cc) (u := .slice (some ⟨w6.heap.size, 0, none⟩) 1 1) (by kernel_rfl) (.tmp 51) (.tmp 55) 22 22 (by kernel_rfl) (by kernel_rfl) (by kernel_rfl) R1.out ?_))
        all_goals (
          go_wp2
          go_end0
          exact ⟨rfl, _, by omega, by simp; omega, hpe, HR1.out, HK1.out⟩)
      have hV : (p, none) = V := by
        have h1 := HV.out
        rw [if_neg h91, if_neg h123, if_neg h60, if_neg h115] at h1
        have hnum : numL 18446744073709551615 ((tx s).drop p) true 0 = (0, 0) := by
          have hlt := at_lt HTx.out
          have e : (tx s).drop p = x :: (tx s).drop (p + 1) := by
            rw [List.drop_eq_getElem_cons hlt]
            have h := HTx.out
            rw [List.getElem?_eq_getElem hlt] at h
            rw [Option.some.inj h]
          rw [e, numL, if_neg hdig]
        have hL : leafW (tx s) x p = (p, 0, false) := by
          unfold leafW
          rw [if_neg h110, if_neg h102, if_neg h116, hnum]
          rfl
        rw [hL, if_neg (by simp)] at h1
        exact h1
      subst hV
      clear HV HTx IH
      have b1 : (x == 116) = false := by simpa using h116
      have b2 : (x == 102) = false := by simpa using h102
      have b3 : (x == 110) = false := by simpa using h110
      have b4 : (x == 115) = false := by simpa using h115
      have b5 : (x == 91) = false := by simpa using h91
      have b6 : (x == 123) = false := by simpa using h123
      have b7 : (x == 60) = false := by simpa using h60
      have HE : Hid (ValD B w (wb.setCell ⟨b, 3, none⟩ (.bool true)) b s p N (p, none)) := ⟨_, N, Nat.le_refl _, hN, hp, HRb.out.setb true, HKb.out.trans (HRb.out.keptb 3 _)⟩
      by_cases h48 : 48 ≤ x
      · have h57 : ¬ x ≤ 57 := fun h => hdig ⟨h48, h⟩
        have h57' : decide (x ≤ 57) = false := by simpa using h57
        clear hdig
        go_wp2
        go_end0
        exact ⟨rfl, HE.out⟩
      · have h48' : decide (48 ≤ x) = false := by simpa using h48
        clear hdig
        go_wp2
        go_end0
        exact ⟨rfl, HE.out⟩
end Go.Proofs.YtlbgdgobhiokpaaDoor

/- The document's Parse. -/
namespace Go.Proofs.YtlbgdgobhiokpaaDoor
open Go.RowKit
set_option linter.unusedVariables false

def endD (n : Nat) (V : Nat × Option (List Nd)) : Option (List Nd) × Nat := match V with
  | (q, none) => (none, q)
  | (q, some L) => if q = n then (some L, q) else (none, q)
theorem parseD_end (s : ByteArray) : parseD (tx s) = endD s.size (valP (tx s) (s.size + 1) 0) := by
  unfold parseD
  rw [tx_len]
  rfl
def PrsTo (w w' : World) (e : Ending) (t : List Int) : Prop :=
  Below w.heap.size w w' ∧ (match parseD t with
    | (none, q) => e = .returned (.tuple #[.slice none 0 0, .int .i64 41, .int .i64 (q : Int)])
    | (some L, _) => ∃ v, e = .returned (.tuple #[v, .int .i64 0, .int .i64 0]) ∧ w'.ownsRow w.heap.size 37 3 v L.length (cellsN L))
set_option maxRecDepth 100000 in
set_option maxHeartbeats 8000000 in
theorem refParse_long (s : ByteArray) (w : World) (hs : 1048576 < s.size) (hs2 : s.size ≤ 2 ^ 62) :
    Calls Tryd.prog 66 #[.string s] w fun e w' => e = .returned (.tuple #[.slice none 0 0, .int .i64 4, .int .i64 0]) ∧ w = w' := by
  have h : (1048576 : Int) < s.size := by omega
  go_enter Tryd.func66, Tryd.ntmps66
  go_wp2
  go_ret3
  exact ⟨rfl, rfl⟩
set_option maxRecDepth 100000 in
set_option maxHeartbeats 8000000 in
theorem refParse_any (s : ByteArray) (w : World) (hs : s.size ≤ 1048576) :
    Calls Tryd.prog 66 #[.string s] w fun e w' => Hid (PrsTo w w' e (tx s)) := by
  have h : ¬ (1048576 : Int) < s.size := by omega
  have hR : RdD w.heap.size (w.alloc (.cells #[.string s, .int .i64 0, .slice none 0 0, .bool false] 141)) w.heap.size s 0 (.slice none 0 0) [] false := by
    refine ⟨Blk.new _ _ _, Nat.le_refl _, ?_⟩
    exact ⟨by simp [cellsN], .inl ⟨rfl, rfl⟩⟩
  have HC := hide_ (valueD_any w.heap.size w.heap.size s hs (s.size + 1) 0 _ [] _ hR (Nat.zero_le _) (Nat.le_refl _) (by omega))
  have hB : Below w.heap.size w (w.alloc (.cells #[.string s, .int .i64 0, .slice none 0 0, .bool false] 141)) := (Below.refl _ _).alloc (Nat.le_refl _) _
  have HB := hide_ hB
  clear hR hB
  obtain ⟨V, HVe⟩ : ∃ V, Hid (valP (tx s) (s.size + 1) 0 = V) := ⟨_, rfl⟩
  rw [HVe.out] at HC
  have HPD : Hid (parseD (tx s) = endD s.size V) := by
    show _ = _
    rw [parseD_end, HVe.out]
  clear HVe
  go_enter Tryd.func66, Tryd.ntmps66
  go_wp2_with fail
  refine HC.out.mono ?_
  rintro _ w2 ⟨rfl, HD⟩
  have hD := HD.out
  have hP := HPD.out
  clear HC HD HPD
  obtain ⟨q, o⟩ := V
  cases o with
  | none =>
    obtain ⟨vn2, N2, d1, d2, d3, d4, d5⟩ := hD
    have c1 := d4.c1; have c3 := d4.c3
    have HE : Hid (∀ n, PrsTo w (w2.drewN n) (.returned (.tuple #[.slice none 0 0, .int .i64 41, .int .i64 (q : Int)])) (tx s)) := by
      intro n
      refine ⟨HB.out.trans (d5.drewN n).bel, ?_⟩
      rw [hP]
      rfl
    clear d1 d2 d4 d5 hP HB
    go_wp2_with fail
    go_quiet (fail)
    go_wp2
    go_ret3
    exact HE.out _
  | some L =>
    obtain ⟨vn2, d1, d2, d3, d4, d5⟩ := hD
    have c1 := d4.c1; have c2 := d4.c2; have c3 := d4.c3
    by_cases hq : q = s.size
    · subst hq
      have HE : Hid (PrsTo w w2 (.returned (.tuple #[vn2, .int .i64 0, .int .i64 0])) (tx s)) := by
        refine ⟨HB.out.trans d5.bel, ?_⟩
        have e : endD s.size (s.size, some L) = (some L, s.size) := by unfold endD; simp
        rw [hP, e]
        exact ⟨vn2, rfl, d4.nod⟩
      clear d1 d2 d4 d5 hP HB
      have hb : decide ((s.size : Int) < (s.size : Int)) = false := by simp
      go_wp2
      go_ret3
      exact HE.out
    · have HE : Hid (∀ n, PrsTo w (w2.drewN n) (.returned (.tuple #[.slice none 0 0, .int .i64 41, .int .i64 (q : Int)])) (tx s)) := by
        intro n
        refine ⟨HB.out.trans (d5.drewN n).bel, ?_⟩
        have e : endD s.size (q, some L) = (none, q) := by unfold endD; simp [hq]
        rw [hP, e]
      clear d1 d2 d4 d5 hP HB
      have hb : (q : Int) < (s.size : Int) := by omega
      go_wp2_with fail
      go_quiet (fail)
      go_wp2
      go_ret3
      exact HE.out _
end Go.Proofs.YtlbgdgobhiokpaaDoor

/- A made value's text; bytes of a text in memory. -/
namespace Go.Proofs.YtlbgdgobhiokpaaDoor
open Go.RowKit
set_option linter.unusedVariables false
set_option linter.unusedSimpArgs false

theorem made_right {M : List Nd} (h : MadeOk M) : ∀ x ∈ M, right x = true ∧ 0 ≤ x.2.1 := fun x hx => ⟨(chk_enough M 1 0 h.ok).2.2 x hx, h.pos x hx⟩
theorem made_tx {M : List Nd} (h : MadeOk M) : tx (printS M) = printM M [] := by
  rw [printS, if_pos h.ok]
  exact tx_of (printM_bytes M [] (made_right h))
theorem made_ne {M : List Nd} (h : MadeOk M) : 0 < M.length := by
  rcases Nat.eq_zero_or_pos M.length with h0 | h0
  · have := h.ok
    rw [List.length_eq_zero_iff.1 h0] at this
    simp [chk] at this
  · exact h0
theorem beginT_pos (x : Nd) (hx : right x = true) : 0 < (beginT x).length := by
  obtain ⟨h1, h2, h3⟩ := (right_iff x).1 hx
  have hm : mostN x.1 ≤ 18446744073709551615 := by unfold mostN; split <;> (try split) <;> (try split) <;> omega
  obtain ⟨c, r, e, -⟩ := digs_head x.2.1 (by omega)
  unfold beginT
  split
  · rw [e]; simp
  · split
    · split <;> simp
    · split
      · simp
      · split
        · simp
        · split
          · simp
          · split <;> simp
theorem digF_len : ∀ (m f u : Nat), u < 10 ^ (m + 1) → (digF f u).length ≤ m + 1
  | m, 0, u, h => by simp [digF]
  | 0, f + 1, u, h => by simp at h; rw [digF, if_pos h]; simp
  | m + 1, f + 1, u, h => by
    by_cases hu : u < 10
    · rw [digF, if_pos hu]; simp
    · rw [digF, if_neg hu]
      have := digF_len m f (u / 10) (by rw [Nat.div_lt_iff_lt_mul (by decide)]; rw [Nat.pow_succ] at h; exact h)
      simp
      omega
theorem printM_small : ∀ (l : List Nd) (K : Stk), (∀ x ∈ l, right x = true ∧ 0 ≤ x.2.1) → (printM l K).length ≤ 22 * l.length + 3 * K.length
  | [], K, _ => by simp [printM]
  | x :: l, K, h => by
    obtain ⟨h1, h2, h3⟩ := (right_iff x).1 (h x (by simp)).1
    have h4 := printM_small l (closeM x.2.2 x.1 K).2 (fun y hy => h y (by simp [hy]))
    have h5 : (beginT x).length + (closeM x.2.2 x.1 K).1.length + 3 * (closeM x.2.2 x.1 K).2.length ≤ 22 + 3 * K.length := by
      by_cases hk : x.1 = 1
      · have e1 : (beginT x).length ≤ 20 := by
          have hm : x.2.1 ≤ 18446744073709551615 := by rw [hk] at h2; exact h2
          unfold beginT
          rw [if_pos hk]
          exact digF_len 19 20 x.2.1.toNat (by omega)
        have e2 : (closeM x.2.2 x.1 K).1.length + 3 * (closeM x.2.2 x.1 K).2.length ≤ 3 * K.length + 2 := by
          have h0 : x.2.2 = 0 := by rw [hk] at h3; have : leastK 1 = 0 := rfl; have : mostK 1 = 0 := rfl; omega
          rw [h0, hk]
          cases K with
          | nil => simp [closeM, endT]
          | cons e T =>
            obtain ⟨g, k2⟩ := e
            have := closeM_len T (g - 1) k2
            have h3 : (if 1 < g then ([44, 32] : List Int) else []).length ≤ 2 := by split <;> simp
            simp only [closeM, if_pos, endT, List.length_append, List.length_cons]
            simp
            omega
        omega
      · have e1 : (beginT x).length ≤ 5 := by
          unfold beginT
          rw [if_neg hk]
          split
          · split <;> simp
          · split
            · simp
            · split
              · simp
              · split
                · rename_i h6
                  have hm : x.2.1 ≤ 255 := by rw [h6] at h2; exact h2
                  have := digF_len 2 20 x.2.1.toNat (by omega)
                  simp [digs]
                  omega
                · split <;> simp
        have := closeM_len K x.2.2 x.1
        omega
    simp only [printM, List.length_append, List.length_cons]
    omega
theorem made_size {M : List Nd} (h : MadeOk M) : 0 < (printS M).size ∧ (printS M).size ≤ 9900 := by
  rw [← tx_len, made_tx h]
  have h1 := printM_small M [] (made_right h)
  have h2 := h.len
  refine ⟨?_, by simp at h1; omega⟩
  cases hM : M with
  | nil => have := made_ne h; rw [hM] at this; simp at this
  | cons x l =>
    have := beginT_pos x (made_right h x (by rw [hM]; simp)).1
    simp only [printM, List.length_append]
    omega
theorem made_read {M : List Nd} (h : MadeOk M) : okM (tx (printS M)) (readT (tx (printS M)) st00) = true ∧ parseN (tx (printS M)) = M ∧ parseF (tx (printS M)) = (0, 0) := by
  rw [made_tx h]
  exact parse_print M h.ok h.pos
theorem parseN_len (t : List Int) : (parseN t).length ≤ t.length := by
  have : ∀ (f : Nat) (st : PS), PSok t.length st → PSok t.length (readM f t st) := by
    intro f
    induction f with
    | zero => intro st h; exact h
    | succ f ih =>
      intro st h
      rw [readM]
      cases hc : t[st.p]? with
      | none => exact h
      | some c =>
        obtain ⟨h1, h2, h3⟩ := rndM_ok (c := c) h (at_lt hc)
        simp only
        split
        · exact ih _ h1
        · exact h1
  unfold parseN
  split
  · have h1 : PSok t.length (readT t st00) := this _ _ (PSok.begin t.length)
    exact Nat.le_trans h1.np h1.pl
  · exact Nat.zero_le _
theorem tx_front (s : ByteArray) (k : Nat) : tx (s.extract 0 k) = (tx s).take k := by
  unfold tx
  rw [← List.map_take]
  congr 1
  simp [ByteArray.data_extract]
/-- What the reading of a text comes to. -/
theorem parse_two (t : List Int) : (okM t (readT t st00) = true ∧ parseF t = (0, 0)) ∨ (okM t (readT t st00) = false ∧ parseN t = [] ∧ parseF t = (41, ((readT t st00).p : Int))) := by
  unfold parseN parseF
  cases h : okM t (readT t st00) with
  | true => left; simp
  | false => right; simp
/-- What a text that is read prints as. -/
theorem read_print (s : ByteArray) (h : okM (tx s) (readT (tx s) st00) = true) : printS (parseN (tx s)) = s ∧ (chk 1 0 (parseN (tx s))) = (0, 0) ∧ ∀ x ∈ parseN (tx s), 0 ≤ x.2.1 := by
  obtain ⟨h1, h2, h3⟩ := print_parse (tx s) h
  refine ⟨?_, h2, h1⟩
  rw [printS, if_pos (by rw [h2]), h3, of_tx]
theorem beq_self (s : ByteArray) : (s.toList == s.toList) = true := by simp
theorem beq_not {s t : ByteArray} (h : s ≠ t) : (s.toList == t.toList) = false := by
  rw [beq_eq_false_iff_ne]
  intro e
  apply h
  rw [ByteArray.toList_eq, ByteArray.toList_eq] at e
  exact ByteArray.ext (Array.toList_inj.1 e)
/-- Bytes in a block of a text's own. -/
structure Bts (B : Nat) (w : World) (g : Nat) (l : List Int) : Prop where
  at' : ∀ i, i < l.length → w.cell? ⟨g, i, none⟩ = some (.int .u8 (l.getD i 0))
  fz : ∀ i, i < l.length → w.frozen? ⟨g, i, none⟩ = false
  hb : B ≤ g
  lt : g < w.heap.size
theorem run_bytes (w : World) (s : ByteArray) : ∃ cap w', (convert 9 41 (.string s)).run Tryd.prog w = .ok (.slice (some ⟨w.heap.size, 0, none⟩) s.size cap) w' ∧ s.size ≤ cap ∧ Bts w.heap.size w' w.heap.size (tx s) ∧ Below w.heap.size w w' := by
  refine ⟨_, _, Lib.run_convert_string_bytes (P := Tryd.prog) w 9 41 5 s (u := .string) Tryd.underlying9 Tryd.underlying41 Tryd.underlying5, ?_, ⟨fun i hi => ?_, fun i hi => ?_, Nat.le_refl _, by rw [Lib.bytesWorld_size]; omega⟩, Lib.bytesWorld_below w 5 s⟩
  · exact grownCap_ge _ _ _ _
  · rw [tx_len] at hi
    rw [Lib.bytesWorld_cell w 5 s i hi]
    have h1 := tx_at s i hi
    have h2 : i < s.data.toList.length := by simpa using hi
    have e1 : (tx s).getD i 0 = ((s[i]'hi).toNat : Int) := by rw [List.getD, h1]; rfl
    rw [e1, List.getD, List.getElem?_eq_getElem h2]
    rfl
  · rw [tx_len] at hi
    have hsz : s.size ≤ (Lib.bytesCells w 5 s).size := by simp [Lib.bytesCells]
    simp only [World.frozen?, Lib.bytesWorld_at_new]
    simp
    omega
theorem Bts.row {B g : Nat} {w : World} {l : List Int} (h : Bts B w g l) : Row .u8 w (some ⟨g, 0, none⟩) l := .inr ⟨_, rfl, fun i hi => by rw [add_none, Nat.zero_add]; exact h.at' i hi⟩
theorem Bts.later {B g : Nat} {w w' : World} {l : List Int} (h : Bts B w g l) (hB : Below w.heap.size w w') : Bts B w' g l :=
  ⟨fun i hi => (hB.cell h.lt).trans (h.at' i hi), fun i hi => by rw [← h.fz i hi]; simp only [World.frozen?]; rw [hB.block g h.lt], h.hb, Nat.lt_of_lt_of_le h.lt hB.size⟩
theorem Bts.set {B g k : Nat} {w : World} {l : List Int} (h : Bts B w g l) (c : Int) (hk : k < l.length) : Row .u8 (w.setCell ⟨g, k, none⟩ (.int .u8 c)) (some ⟨g, 0, none⟩) (l.set k c) := by
  refine .inr ⟨_, rfl, fun i hi => ?_⟩
  rw [add_none, Nat.zero_add]
  simp at hi
  by_cases e : i = k
  · subst e
    rw [World.cell?_setCell_same _ _ _ (h.at' i hk)]
    simp [List.getD, hk]
  · rw [World.cell?_setCell_other _ _ _ _ (by intro h1; injection h1 with _ h1; exact e h1.symm), h.at' i hi]
    simp [List.getD, Ne.symm e]
end Go.Proofs.YtlbgdgobhiokpaaDoor
