/- size.Lengths, size.Length. -/
import Derived.Test.YtpkghpfdibnhcaaZu
namespace Go.Proofs.Ytpkghpfdibnhcaa
open Go.RowKit
set_option linter.unusedVariables false

def lenM (n : Nat) : Option (Int × List Int) → Int × List Int
  | some r => if r.2.length < n then (40, []) else (0, r.2)
  | none => (40, [])
/-- What Lengths answers: the error, the lengths. -/
def lenP (T : List Ty) (R : List Rt) (t : Int) (V : List Nv) : Int × List Int :=
  if (chk T R).1 ≠ 0 then ((chk T R).1, []) else if ¬ (0 ≤ t ∧ t < T.length) then (3, []) else
    lenM V.length (nxP T (extL T) V T.length t.toNat [])
def IOwn (w : World) (B : Nat) (v : Value) (L : List Int) : Prop := w.ownsRow B 3 1 v L.length (cellsL .i64 L)
def LenTo (r : Int × List Int) (w : World) (e : Ending) (w' : World) : Prop := ∃ v, e = .returned (.tuple #[v, .int .i64 r.1]) ∧ IOwn w' w.heap.size v r.2 ∧ Below w.heap.size w w'
set_option maxRecDepth 100000 in
set_option maxHeartbeats 8000000 in
theorem lengths_any (aT : Option Addr) (cT : Nat) (T : List Ty) (aR : Option Addr) (cR : Nat) (R : List Rt) (t : Int) (aV : Option Addr) (cV : Nat) (V : List Nv) (w : World) (hn : T.length ≤ 1000000000) (hm : R.length ≤ 10000000000000) (hVl : V.length ≤ 1000000000) (hVk : Hid (∀ x ∈ V, NvOk x)) (hL : Hid (LensT T)) (hT : Hid (TRow w aT T)) (hR : Hid (RRow w aR R)) (hV : Hid (VRow w aV V)) :
    Calls Try.prog 18 #[.agg #[.slice aT T.length cT, .slice aR R.length cR], .int .i64 t, .slice aV V.length cV] w fun e w' => LenTo (lenP T R t V) w e w' := by
  have hB := below1 w (.cells #[.slice aT T.length cT, .slice aR R.length cR] 31)
  have k1 := Blk.newA w #[.slice aT T.length cT, .slice aR R.length cR] 31
  obtain ⟨w0, hw0⟩ : ∃ wx, wx = w.alloc (.cells #[.slice aT T.length cT, .slice aR R.length cR] 31) := ⟨_, rfl⟩
  rw [← hw0] at hB k1
  have HB0 := hide_ hB
  have K1 := hide_ k1
  have i0 := k1.cell 0; have i1 := k1.cell 1
  simp at i0 i1
  have HCo := hide_ (of_any aT cT T aR cR R w0 hn hm hL (hide_ (hT.out.later hB)) (hide_ (hR.out.later hB)))
  obtain ⟨res, hres⟩ : ∃ res, lenP T R t V = res := ⟨_, rfl⟩
  rw [hres]
  have HRes := hide_ hres
  clear hB k1 hres
  go_enter Try.func18, Try.ntmps18
  go_upto_region 1 with fail
  rw [← hw0]
  clear hw0
  go_wp2_with fail
  refine HCo.out.mono ?_
  rintro e w1 (⟨hne, rfl, hB1⟩ | ⟨hOK, vX, rfl, hX1, hB1⟩)
  · have HV : Hid (res = ((chk T R).1, [])) := hide_ (by rw [← HRes.out]; unfold lenP; rw [if_pos hne])
    obtain ⟨vE, hE⟩ : ∃ vE, (chk T R).1 = vE := ⟨_, rfl⟩
    rw [hE] at hne HV ⊢
    have hne' : (vE != 0) = true := by simpa using hne
    have HBf := hide_ (below_to HB0.out hB1)
    clear hB1 HCo hE
    go_wp2
    go_ret2
    exact ⟨.slice none 0 0, by rw [HV.out]; rfl, by rw [HV.out]; exact World.ownsRow_nil _ _ _ _, HBf.out⟩
  · have hc0 : ¬ (chk T R).1 ≠ 0 := by rw [hOK.chk]; simp
    have HB1 := hide_ (below_to HB0.out hB1)
    have K2 := hide_ (K1.out.later hB1)
    obtain ⟨aX, cX, hvX, -, -, hXr⟩ := hX1.row
    subst hvX
    have HXr := hide_ hXr
    have HOK := hide_ hOK
    have HC0 := hide_ hc0
    have l0 := K2.out.cell 0; have l1 := K2.out.cell 1
    simp at l0 l1
    clear hB1 hX1 hXr hOK hc0 HCo i0 i1
    by_cases ht0 : 0 ≤ t
    · by_cases ht1 : t < T.length
      · obtain ⟨num, rfl⟩ := Int.eq_ofNat_of_zero_le ht0
        have hnum : num < T.length := by omega
        have kw := Blk.newA w1 #[.slice aT T.length cT, .slice aX (extL T).length cX, .slice aV V.length cV, .slice none 0 0] 80
        have hB2 := below1 w1 (.cells #[.slice aT T.length cT, .slice aX (extL T).length cX, .slice aV V.length cV, .slice none 0 0] 80)
        obtain ⟨w2, hw2⟩ : ∃ wx, wx = w1.alloc (.cells #[.slice aT T.length cT, .slice aX (extL T).length cX, .slice aV V.length cV, .slice none 0 0] 80) := ⟨_, rfl⟩
        rw [← hw2] at kw hB2
        have HWS : Hid (WS w2 w1.heap.size (.slice aT T.length cT) (.slice aX (extL T).length cX) (.slice aV V.length cV) (.slice none 0 0) []) := hide_ ⟨kw, World.ownsRow_nil _ _ _ _⟩
        have HCn := hide_ ((next_any T R (extL T) V aT aX aV cT cX cV w1.heap.size w1 HOK (hide_ (extL_len T)) hn hVl hVk hL (hide_ (hT.out.later HB1.out)) HXr (hide_ (hV.out.later HB1.out)) rfl T.length).out num w2 (.slice none 0 0) [] hnum hnum (Nat.zero_le _) (hide_ hB2) HWS)
        obtain ⟨r, hr⟩ : ∃ r, nxP T (extL T) V T.length num [] = r := ⟨_, rfl⟩
        rw [hr] at HCn
        have HV0 : Hid (res = lenM V.length r) := hide_ (by
          rw [← HRes.out]
          unfold lenP
          rw [if_neg HC0.out, if_neg (by simp; omega), Int.toNat_natCast, hr])
        have HB2 := hide_ hB2
        clear kw hB2 hr
        go_upto_region 7 with fail
        rw [← hw2]
        clear hw2 l0 l1
        go_wp2_with fail
        refine HCn.out.mono ?_
        rintro e w3 ⟨hU3, hE3⟩
        have HB3 := hide_ (HB2.out.trans (WS.below HWS.out hU3))
        have HBf := hide_ (below_to HB1.out HB3.out)
        clear hU3 HCn
        cases r with
        | none =>
          subst hE3
          have HV : Hid (res = (40, [])) := HV0
          go_wp2
          go_ret2
          exact ⟨.slice none 0 0, by rw [HV.out]; rfl, by rw [HV.out]; exact World.ownsRow_nil _ _ _ _, HBf.out⟩
        | some r =>
          obtain ⟨ln, L⟩ := r
          obtain ⟨rfl, vl, hW3, -⟩ := hE3
          obtain ⟨al, cl, hvl⟩ := own_form hW3.2
          subst hvl
          have HW3 := hide_ hW3
          have m3 := hW3.1.cell 3
          simp at m3
          clear hW3
          by_cases hlt : L.length < V.length
          · have HV : Hid (res = (40, [])) := hide_ (by rw [HV0.out]; exact if_pos hlt)
            have hlt' : (L.length : Int) < V.length := by omega
            go_wp2
            go_ret2
            exact ⟨.slice none 0 0, by rw [HV.out]; rfl, by rw [HV.out]; exact World.ownsRow_nil _ _ _ _, HBf.out⟩
          · have HV : Hid (res = (0, L)) := hide_ (by rw [HV0.out]; exact if_neg hlt)
            have hlt' : ¬ (L.length : Int) < V.length := by omega
            have HO : Hid (IOwn w3 w.heap.size (.slice al L.length cl) L) := hide_ (own_base HW3.out.2 HB1.out.size)
            go_wp2
            go_ret2
            exact ⟨_, by rw [HV.out]; rfl, by rw [HV.out]; exact HO.out, HBf.out⟩
      · have HV : Hid (res = (3, [])) := hide_ (by rw [← HRes.out]; unfold lenP; rw [if_neg HC0.out, if_pos (by omega)])
        go_wp2
        go_ret2
        exact ⟨.slice none 0 0, by rw [HV.out]; rfl, by rw [HV.out]; exact World.ownsRow_nil _ _ _ _, HB1.out⟩
    · have HV : Hid (res = (3, [])) := hide_ (by rw [← HRes.out]; unfold lenP; rw [if_neg HC0.out, if_pos (by omega)])
      go_wp2
      go_ret2
      exact ⟨.slice none 0 0, by rw [HV.out]; rfl, by rw [HV.out]; exact World.ownsRow_nil _ _ _ _, HB1.out⟩
theorem lenP_len {T : List Ty} {R : List Rt} {t : Int} {V : List Nv} (h : (lenP T R t V).1 = 0) : 0 < (lenP T R t V).2.length := by
  unfold lenP at h ⊢
  split at h
  · rename_i hc; exact absurd h hc
  · rename_i hc
    rw [if_neg hc]
    split at h
    · simp at h
    · rename_i hc2
      rw [if_neg hc2]
      cases hr : nxP T (extL T) V T.length t.toNat [] with
      | none => rw [hr] at h; simp [lenM] at h
      | some r =>
        rw [hr] at h
        have h1 := nxP_len T.length t.toNat [] r (Nat.zero_le _) hr
        simp only [lenM] at h ⊢
        split at h
        · simp at h
        · rename_i h3
          rw [if_neg h3]
          simp at h1
          simp only
          omega
set_option maxRecDepth 100000 in
set_option maxHeartbeats 8000000 in
theorem length_any (aT : Option Addr) (cT : Nat) (T : List Ty) (aR : Option Addr) (cR : Nat) (R : List Rt) (t : Int) (aV : Option Addr) (cV : Nat) (V : List Nv) (w : World) (hn : T.length ≤ 1000000000) (hm : R.length ≤ 10000000000000) (hVl : V.length ≤ 1000000000) (hVk : Hid (∀ x ∈ V, NvOk x)) (hL : Hid (LensT T)) (hT : Hid (TRow w aT T)) (hR : Hid (RRow w aR R)) (hV : Hid (VRow w aV V)) :
    Calls Try.prog 19 #[.agg #[.slice aT T.length cT, .slice aR R.length cR], .int .i64 t, .slice aV V.length cV] w fun e w' => e = .returned (.tuple #[.int .i64 (if (lenP T R t V).1 = 0 then (lenP T R t V).2.getD 0 0 else 0), .int .i64 (lenP T R t V).1]) ∧ Below w.heap.size w w' := by
  have hB := below1 w (.cells #[.slice aT T.length cT, .slice aR R.length cR] 31)
  have k1 := Blk.newA w #[.slice aT T.length cT, .slice aR R.length cR] 31
  obtain ⟨w0, hw0⟩ : ∃ wx, wx = w.alloc (.cells #[.slice aT T.length cT, .slice aR R.length cR] 31) := ⟨_, rfl⟩
  rw [← hw0] at hB k1
  have HB0 := hide_ hB
  have i0 := k1.cell 0; have i1 := k1.cell 1
  simp at i0 i1
  have HCo := hide_ (lengths_any aT cT T aR cR R t aV cV V w0 hn hm hVl hVk hL (hide_ (hT.out.later hB)) (hide_ (hR.out.later hB)) (hide_ (hV.out.later hB)))
  have hpos : (lenP T R t V).1 = 0 → 0 < (lenP T R t V).2.length := lenP_len
  generalize lenP T R t V = r at *
  obtain ⟨er, L⟩ := r
  simp only at hpos
  obtain ⟨out, hout⟩ : ∃ out, (if (er, L).1 = 0 then (er, L).2.getD 0 0 else 0) = out := ⟨_, rfl⟩
  rw [hout]
  have HOut := hide_ hout
  have HPos := hide_ hpos
  clear hB k1 hout hpos
  go_enter Try.func19, Try.ntmps19
  go_upto_region 1 with fail
  rw [← hw0]
  clear hw0
  go_wp2_with fail
  refine HCo.out.mono ?_
  rintro e w1 ⟨v, rfl, hO, hB1⟩
  have HBf := hide_ (below_to HB0.out hB1)
  have HO := hide_ hO
  clear hB1 hO HCo i0 i1
  by_cases h0 : er = 0
  · subst h0
    have hp := HPos.out rfl
    obtain ⟨g, cap, hv, -, hc, -, -⟩ := own_set HO.out (i := 0) hp
    subst hv
    simp only at hc hp
    have hp' : (0 : Int) < L.length := by omega
    have HV : Hid (out = L.getD 0 0) := hide_ (by rw [← HOut.out]; rfl)
    generalize L.getD 0 0 = q at *
    go_wp2
    go_ret2
    exact ⟨by rw [HV.out]; rfl, HBf.out⟩
  · have hne : (er != 0) = true := by simpa using h0
    have HV : Hid (out = 0) := hide_ (by rw [← HOut.out]; exact if_neg h0)
    go_wp2
    go_ret2
    exact ⟨by rw [HV.out]; rfl, HBf.out⟩
end Go.Proofs.Ytpkghpfdibnhcaa
